/- The model's CutMarks. The model's l5Add: a mark put to marks. The model's l5Add: a mark put to marks: the walk. The model's AddMark. -/
import Derived.Test.YtbooongkbninhaaDoorHeapZ
namespace Go.Proofs.YtbooongkbninhaaDoor
open Go.RowKit
open Doc1

theorem addrC (g j : Nat) : (⟨g, 0, none⟩ : Addr).add j = ⟨g, j, none⟩ := by unfold Addr.add; split <;> simp_all
theorem cellC_new (w : World) (a b c : Value) (t : TypeId) : ∀ j u, [a, b, c][j]? = some u → (w.alloc (.cells #[a, b, c] t)).cell? ((⟨w.heap.size, 0, none⟩ : Addr).add j) = some u := by
  intro j u hu
  rw [addrC]
  unfold World.cell?
  rw [heap_alloc_new]
  match j, hu with
  | 0, hu => simpa using hu
  | 1, hu => simpa using hu
  | 2, hu => simpa using hu
theorem cellC_new2 (w : World) (o : Obj) (a b c : Value) (t : TypeId) : ∀ j u, [a, b, c][j]? = some u → ((w.alloc o).alloc (.cells #[a, b, c] t)).cell? ((⟨w.heap.size + 1, 0, none⟩ : Addr).add j) = some u := by
  have := cellC_new (w.alloc o) a b c t
  rw [World.size_alloc] at this
  exact this
theorem cutL_snoc (l : List Mk) (fr to : Int) (st : ByteArray) {k : Nat} (hk : k < l.length) : cutL (l.take (k + 1)) fr to st = cutL (l.take k) fr to st ++ cut1 fr to st l[k] := by
  unfold cutL
  rw [List.take_succ_eq_append_getElem hk, List.flatMap_append, List.flatMap_singleton]
theorem cutL_len (fr to : Int) (st : ByteArray) : ∀ l : List Mk, (cutL l fr to st).length ≤ 2 * l.length
  | [] => by simp [cutL]
  | m :: l => by
    have := cutL_len fr to st l
    have e : (cut1 fr to st m).length ≤ 2 := by unfold cut1; split <;> (try simp) <;> split <;> split <;> simp
    unfold cutL at *
    rw [List.flatMap_cons, List.length_append, List.length_cons]; omega

end Go.Proofs.YtbooongkbninhaaDoor

namespace Go.Proofs.YtbooongkbninhaaDoor
open Go.RowKit
open Doc1

/-- A mark in its box. -/
def Bx3 (W : World) (B : Nat) (M : Mk) : Prop := ∃ t, W.heap[B]? = some (.cells #[.int .i64 M.frm, .int .i64 M.to, .string M.style] t (0, 0))
theorem Bx3.cells {W : World} {B : Nat} {M : Mk} (h : Bx3 W B M) : W.cell? ⟨B, 0, none⟩ = some (.int .i64 M.frm) ∧ W.cell? ⟨B, 1, none⟩ = some (.int .i64 M.to) ∧ W.cell? ⟨B, 2, none⟩ = some (.string M.style) := by
  obtain ⟨t, h⟩ := h
  refine ⟨?_, ?_, ?_⟩ <;> simp [World.cell?, h]
theorem Bx3.fz {W : World} {B : Nat} {M : Mk} (h : Bx3 W B M) (j : Nat) : W.frozen? ⟨B, j, none⟩ = false := by
  obtain ⟨t, h⟩ := h
  simp [World.frozen?, h]
theorem Bx3.lt {W : World} {B : Nat} {M : Mk} (h : Bx3 W B M) : B < W.heap.size := by
  obtain ⟨t, h⟩ := h
  exact (Array.getElem?_eq_some_iff.1 h).1
theorem Bx3.block {W W' : World} {B : Nat} {M : Mk} (h : Bx3 W B M) (hb : W'.heap[B]? = W.heap[B]?) : Bx3 W' B M := by
  obtain ⟨t, h⟩ := h
  exact ⟨t, hb.trans h⟩
theorem Bx3.up {W W' : World} {B : Nat} {M : Mk} (h : Bx3 W B M) (hb : Below W.heap.size W W') : Bx3 W' B M := h.block (hb.block B h.lt)
theorem bx3_new (W : World) (M : Mk) (t : TypeId) : Bx3 (W.alloc (.cells #[.int .i64 M.frm, .int .i64 M.to, .string M.style] t)) W.heap.size M := ⟨t, heap_alloc_new W _⟩
theorem Bx3.set0 {W : World} {B : Nat} {M : Mk} (h : Bx3 W B M) (u : Int) : Bx3 (W.setCell ⟨B, 0, none⟩ (.int .i64 u)) B ⟨u, M.to, M.style⟩ := by
  obtain ⟨t, h⟩ := h
  refine ⟨t, ?_⟩
  unfold World.setCell
  show (W.heap.modify B _)[B]? = _
  rw [Array.getElem?_modify, if_pos rfl, h]
  rfl
theorem Bx3.set1 {W : World} {B : Nat} {M : Mk} (h : Bx3 W B M) (u : Int) : Bx3 (W.setCell ⟨B, 1, none⟩ (.int .i64 u)) B ⟨M.frm, u, M.style⟩ := by
  obtain ⟨t, h⟩ := h
  refine ⟨t, ?_⟩
  unfold World.setCell
  show (W.heap.modify B _)[B]? = _
  rw [Array.getElem?_modify, if_pos rfl, h]
  rfl
theorem lt_styles {a b : Mk} (h : Op.bytesLess a.style.toList b.style.toList = true) : mkLt a b = true ∧ (a.style.toList == b.style.toList) = false ∧ Op.bytesLess b.style.toList a.style.toList = false := by
  have hne : a.style.toList ≠ b.style.toList := fun e => by rw [e, bl_ir] at h; cases h
  have hb : (a.style.toList == b.style.toList) = false := by simpa using hne
  refine ⟨by unfold mkLt; rw [if_neg (by rw [hb]; simp)]; exact h, hb, ?_⟩
  cases c : Op.bytesLess b.style.toList a.style.toList with
  | false => rfl
  | true => have := bl_tr _ _ _ h c; rw [bl_ir] at this; cases this
theorem eq_styles {a b : Mk} (h : (a.style.toList == b.style.toList) = true) : a.style = b.style ∧ Op.bytesLess a.style.toList b.style.toList = false ∧ Op.bytesLess b.style.toList a.style.toList = false ∧ mkLt a b = decide (a.to < b.frm) ∧ mkLt b a = decide (b.to < a.frm) := by
  have e : a.style.toList = b.style.toList := by simpa using h
  refine ⟨toL_inj e, by rw [e, bl_ir], by rw [e, bl_ir], by unfold mkLt; rw [if_pos h], by unfold mkLt; rw [if_pos (by rw [e]; exact beq_self_eq_true _)]⟩
theorem mk_cases (x M : Mk) : (Op.bytesLess x.style.toList M.style.toList = true) ∨ ((x.style.toList == M.style.toList) = true) ∨ (Op.bytesLess M.style.toList x.style.toList = true) := by
  by_cases e : x.style.toList = M.style.toList
  · exact .inr (.inl (by simpa using e))
  · rcases bl_tt _ _ e with c | c
    · exact .inl c
    · exact .inr (.inr c)
theorem lt_after {x M : Mk} (hx : x.frm < x.to) (hM : M.frm < M.to) (h : mkLt M x = true) : (Op.bytesLess M.style.toList x.style.toList = true) ∨ ((x.style.toList == M.style.toList) = true ∧ M.to < x.frm ∧ ¬ x.to < M.frm) := by
  rcases mk_cases x M with c | c | c
  · have := lt_styles c
    unfold mkLt at h
    rw [if_neg (by intro d; rw [show (M.style.toList == x.style.toList) = false from by rw [← Bool.not_eq_true]; intro e; have := (eq_styles e).1; rw [this] at c; rw [bl_ir] at c; cases c] at d; cases d)] at h
    rw [this.2.2] at h; cases h
  · rw [(eq_styles c).2.2.2.2] at h
    have := of_decide_eq_true h
    exact .inr ⟨c, this, by omega⟩
  · exact .inl c
theorem own_held {w w2 : World} {B n sz : Nat} {e : TypeId} {v : Value} {xs : List Value} (h : w.ownsRow B e sz v n xs) (hk : ∀ x, v.ownBlock = some x → w2.heap[x]? = w.heap[x]?) : w2.ownsRow B e sz v n xs := by
  refine ⟨h.1, ?_⟩
  rcases h.2 with c | ⟨g, cap, cur, hv, h1, h2, h3⟩
  · exact .inl c
  · exact .inr ⟨g, cap, cur, hv, h1, (hk g (by rw [hv]; rfl)).trans h2, h3⟩
/-- The round's state: what is told, and what is left. -/
structure AI (B : Nat) (w : World) (l : List Mk) (m0 : Mk) (k : Nat) (put : Bool) (v : Value) (M : Mk) (out : List Mk) (wr : World) : Prop where
  bx : Bx3 wr B M
  own : wr.ownsRow (B + 1) 34 3 v out.length (encMr out)
  bel : Below B w wr
  eq : addL l m0 = out ++ (if put = true then l.drop k else addL (l.drop k) M)
  aft : put = true → ∀ y ∈ l.drop k, mkLt M y = true
  ml : M.frm < M.to
  st : M.style.size ≤ 1048576
  ol : out.length ≤ 2 * k
theorem AI.before {B : Nat} {w : World} {l : List Mk} {m0 : Mk} {k : Nat} {v : Value} {M : Mk} {out : List Mk} {wr : World} (h : AI B w l m0 k false v M out wr) (hk : k < l.length) {x : Mk} (hxx : x = l[k]) (hx : mkLt x M = true) {v' : Value} {wr' : World} (b : Bx3 wr' B M) (o : wr'.ownsRow (B + 1) 34 3 v' (out.length + 1) (encMr out ++ encMr [x])) (e : Below B w wr') : AI B w l m0 (k + 1) false v' M (out ++ [x]) wr' := by
  subst hxx
  exact ⟨b, by rw [encMr_app, List.length_append]; exact o, e, by rw [h.eq, List.drop_eq_getElem_cons hk, if_neg (by simp), if_neg (by simp), addL, if_pos hx, List.append_assoc]; rfl, fun c => (by cases c), h.ml, h.st, by rw [List.length_append]; have := h.ol; simp; omega⟩
theorem AI.after0 {B : Nat} {w : World} {l : List Mk} {m0 : Mk} {k : Nat} {v : Value} {M : Mk} {out : List Mk} {wr : World} (h : AI B w l m0 k false v M out wr) (hk : k < l.length) {x : Mk} (hxx : x = l[k]) (hn : mkLt x M = false) (hx : mkLt M x = true) (hp : l.Pairwise (fun a b => mkLt a b = true)) (hl : x.frm < x.to) {v' : Value} {wr' : World} (b : Bx3 wr' B M) (o : wr'.ownsRow (B + 1) 34 3 v' (out.length + 1 + 1) (encMr (out ++ [M]) ++ encMr [x])) (e : Below B w wr') : AI B w l m0 (k + 1) true v' M (out ++ [M] ++ [x]) wr' := by
  subst hxx
  refine ⟨b, by rw [encMr_app, List.length_append, List.length_append]; exact o, e, ?_, fun _ y hy => ?_, h.ml, h.st, by rw [List.length_append, List.length_append]; have := h.ol; simp; omega⟩
  · rw [h.eq, List.drop_eq_getElem_cons hk, if_neg (by simp), if_pos rfl, addL, if_neg (by rw [hn]; simp), if_pos hx, List.append_assoc, List.append_assoc]; rfl
  · rw [← List.take_append_drop k l, List.pairwise_append] at hp
    have h2 := hp.2.1
    rw [List.drop_eq_getElem_cons hk, List.pairwise_cons] at h2
    exact mkLt_tr hl hx (h2.1 y hy)
theorem AI.after1 {B : Nat} {w : World} {l : List Mk} {m0 : Mk} {k : Nat} {v : Value} {M : Mk} {out : List Mk} {wr : World} (h : AI B w l m0 k true v M out wr) (hk : k < l.length) {x : Mk} (hxx : x = l[k]) {v' : Value} {wr' : World} (b : Bx3 wr' B M) (o : wr'.ownsRow (B + 1) 34 3 v' (out.length + 1) (encMr out ++ encMr [x])) (e : Below B w wr') : AI B w l m0 (k + 1) true v' M (out ++ [x]) wr' := by
  subst hxx
  refine ⟨b, by rw [encMr_app, List.length_append]; exact o, e, by rw [h.eq, List.drop_eq_getElem_cons hk, if_pos rfl, if_pos rfl, List.append_assoc]; rfl, fun c y hy => h.aft c y ?_, h.ml, h.st, by rw [List.length_append]; have := h.ol; simp; omega⟩
  rw [List.drop_eq_getElem_cons hk]; exact List.mem_cons_of_mem _ hy
theorem AI.touch {B : Nat} {w : World} {l : List Mk} {m0 : Mk} {k : Nat} {v : Value} {M : Mk} {out : List Mk} {wr : World} (h : AI B w l m0 k false v M out wr) (hk : k < l.length) {x : Mk} (hxx : x = l[k]) (hn : mkLt x M = false) (hx : mkLt M x = false) (hl : x.frm < x.to) {M' : Mk} (hM : M' = mgM M x) {wr' : World} (b : Bx3 wr' B M') (o : wr'.ownsRow (B + 1) 34 3 v out.length (encMr out)) (e : Below B w wr') : AI B w l m0 (k + 1) false v M' out wr' := by
  subst hM hxx
  refine ⟨b, o, e, ?_, fun c => (by cases c), ?_, h.st, by have := h.ol; omega⟩
  · rw [h.eq, List.drop_eq_getElem_cons hk, if_neg (by simp), if_neg (by simp), addL, if_neg (by rw [hn]; simp), if_neg (by rw [hx]; simp)]
  · have := h.ml; show min M.frm _ < max M.to _; omega
end Go.Proofs.YtbooongkbninhaaDoor

namespace Go.Proofs.YtbooongkbninhaaDoor
open Go.RowKit
open Doc1

set_option maxRecDepth 100000 in
set_option maxHeartbeats 8000000 in
theorem l5Add_any {w : World} {g cap : Nat} {l : List Mk} (m : Mk) (hst : m.style.size ≤ 1048576) (hm : m.frm < m.to) (h : MrIn w g cap l) (hpw : l.Pairwise (fun a b => mkLt a b = true)) (hlts : ∀ x ∈ l, x.frm < x.to) :
    Calls Tryd.prog 32 #[.slice (some ⟨g, 0, none⟩) l.length cap, .agg #[.int .i64 m.frm, .int .i64 m.to, .string m.style]] w fun e w' => ∃ v, e = .returned v ∧ MrOwn w' w.heap.size v (addL l m) ∧ Below w.heap.size w w' := by
  obtain ⟨i0, hi0, hz0, hz1, hz2⟩ := info_parts Tryd.infoMk
  have hcp := h.cap
  have hln := h.len
  have H := hide h
  have HP := hide hpw
  have HLT := hide hlts
  have hb0 : Below w.heap.size w (w.alloc (.cells #[.int .i64 m.frm, .int .i64 m.to, .string m.style] 34)) := (Below.refl _ _).alloc (Nat.le_refl _) _
  have A0 : Hid (AI w.heap.size w l m 0 false (.slice none 0 0) m [] (w.alloc (.cells #[.int .i64 m.frm, .int .i64 m.to, .string m.style] 34))) := hide ⟨bx3_new w m _, World.ownsRow_nil _ _ _ _, hb0, by simp, fun c => (by cases c), hm, hst, by simp⟩
  clear h hpw hlts hb0 hm hst
  go_enter Tryd.func32, Tryd.ntmps32
  go_wp2_with fail
  go_loopw [5, 6, 11] (fun v b i wr => ∃ k : Nat, k ≤ l.length ∧ i = .int .i64 k ∧ ∃ put, b = .bool put ∧ ∃ v0, v0 = v ∧ ∃ M out, Hid (AI w.heap.size w l m k put v0 M out wr)) (fun _ _ i _ => l.length - (intOf i).toNat)
  case atStart => exact ⟨0, by omega, rfl, false, rfl, _, rfl, m, [], A0⟩
  case round =>
    obtain ⟨k, hk, rfl, put, rfl, v, hv0, M, out, HI⟩ := hrel
    subst hv0
    have hbel := HI.out.bel
    have hol := HI.out.ol
    have hel := encMr_len out
    have hBlt := HI.out.bx.lt
    by_cases hlt : k < l.length
    · obtain ⟨c0, c1, c2⟩ := (H.out.later hbel).at'.mrat k hlt
      obtain ⟨x, hxx⟩ : ∃ x, x = l[k] := ⟨_, rfl⟩
      have HXL : Hid (x.frm < x.to) := hide (by rw [hxx]; exact HLT.out _ (List.getElem_mem _))
      rw [← hxx] at c0 c1 c2
      have HXX := hide hxx
      obtain ⟨z0', z1', z2'⟩ := cellsE_new wr (.int .i64 x.frm) (.int .i64 x.to) (.string x.style)
      have z0 := z0' 34
      have z1 := z1' 34
      have z2 := z2' 34
      have HBX2 := hide (HI.out.bx.up ((Below.refl _ _).alloc (Nat.le_refl _) (.cells #[.int .i64 x.frm, .int .i64 x.to, .string x.style] 34)))
      obtain ⟨p0, p1, p2⟩ := HBX2.out.cells
      have f0 := HBX2.out.fz 0
      have f1 := HBX2.out.fz 1
      have hown2 := HI.out.own.alloc (.cells #[.int .i64 x.frm, .int .i64 x.to, .string x.style] 34)
      have hbel2 := hbel.alloc hbel.size (.cells #[.int .i64 x.frm, .int .i64 x.to, .string x.style] 34)
      have hsz2 := hbel2.size
      have hsz3 := hbel.size
      clear z0' z1' z2' hxx
      cases put with
      | false =>
        rcases mk_cases x M with hc | hc | hc
        · obtain ⟨t1, t2, t3⟩ := lt_styles hc
          have HW : Hid (mkLt x M = true) := hide (t1)
          go_wp2_with (at_builtin; refine wpList_append_own _ rfl _ _ 24 rfl (w.heap.size + 1) 34 i0 (.agg #[.int .i64 0, .int .i64 0, .string ⟨#[]⟩]) 3 32 Tryd.underlying24 hi0 hz0 hz1 hz2 rfl (by decide) _ _ _ rfl (hown2.alloc _) ⟨wr.heap.size + 1, 0, none⟩ 1 1 [.int .i64 x.frm, .int .i64 x.to, .string x.style] rfl rfl (cellC_new2 _ _ _ _ _ _) (by intro u hu; simp at hu; rcases hu with rfl | rfl | rfl <;> rfl) (by unfold maxLen; omega) (by omega) (by simp; omega) ?_; intro v3 w3 hown3 hgrow3 _; have hb3 := below_append hbel2 (own_mono hown2 (Nat.le_succ _)) hsz2 hgrow3; have hx3 := hide (HBX2.out.block ((hgrow3.block w.heap.size (by simp; omega) (fun c => absurd (HI.out.own.lt _ c.symm).1 (by omega))).trans (Below.heap_alloc _ _ _ (by simp; omega)))); have HO3 := hide hown3; clear hown3 hgrow3 hown2)
          have A := hide (HI.out.before hlt HXX.out HW.out hx3.out HO3.out hb3)
          exact ⟨⟨k + 1, by omega, by go_num, false, rfl, _, rfl, _, _, A⟩, by simp [intOf]; omega⟩
        · obtain ⟨t0, t1, t2, t3, t4⟩ := eq_styles hc
          have T3 := hide t3
          have T4 := hide t4
          clear t0 t3 t4
          by_cases g1 : x.to < M.frm
          · have HW : Hid (mkLt x M = true) := hide (by rw [T3.out]; exact decide_eq_true g1)
            go_wp2_with (at_builtin; refine wpList_append_own _ rfl _ _ 24 rfl (w.heap.size + 1) 34 i0 (.agg #[.int .i64 0, .int .i64 0, .string ⟨#[]⟩]) 3 32 Tryd.underlying24 hi0 hz0 hz1 hz2 rfl (by decide) _ _ _ rfl (hown2.alloc _) ⟨wr.heap.size + 1, 0, none⟩ 1 1 [.int .i64 x.frm, .int .i64 x.to, .string x.style] rfl rfl (cellC_new2 _ _ _ _ _ _) (by intro u hu; simp at hu; rcases hu with rfl | rfl | rfl <;> rfl) (by unfold maxLen; omega) (by omega) (by simp; omega) ?_; intro v3 w3 hown3 hgrow3 _; have hb3 := below_append hbel2 (own_mono hown2 (Nat.le_succ _)) hsz2 hgrow3; have hx3 := hide (HBX2.out.block ((hgrow3.block w.heap.size (by simp; omega) (fun c => absurd (HI.out.own.lt _ c.symm).1 (by omega))).trans (Below.heap_alloc _ _ _ (by simp; omega)))); have HO3 := hide hown3; clear hown3 hgrow3 hown2)
            have A := hide (HI.out.before hlt HXX.out HW.out hx3.out HO3.out hb3)
            exact ⟨⟨k + 1, by omega, by go_num, false, rfl, _, rfl, _, _, A⟩, by simp [intOf]; omega⟩
          · by_cases g2 : M.to < x.frm
            · have HW : Hid (mkLt M x = true) := hide (by rw [T4.out]; exact decide_eq_true g2)
              have HN : Hid (mkLt x M = false) := hide (by rw [T3.out]; exact decide_eq_false g1)
              go_wp2_with (first | (at_builtin; refine wpList_append_own _ rfl _ _ 24 rfl (w.heap.size + 1) 34 i0 (.agg #[.int .i64 0, .int .i64 0, .string ⟨#[]⟩]) 3 32 Tryd.underlying24 hi0 hz0 hz1 hz2 rfl (by decide) _ _ _ rfl (hown2.alloc _) ⟨wr.heap.size + 1, 0, none⟩ 1 1 [.int .i64 M.frm, .int .i64 M.to, .string M.style] rfl rfl (cellC_new2 _ _ _ _ _ _) (by intro u hu; simp at hu; rcases hu with rfl | rfl | rfl <;> rfl) (by unfold maxLen; omega) (by omega) (by simp; omega) ?_; intro v3 w3 hown3 hgrow3 _; have hb3 := below_append hbel2 (own_mono hown2 (Nat.le_succ _)) hsz2 hgrow3; have hsz4 := hb3.size; have hx3 := hide (HBX2.out.block ((hgrow3.block w.heap.size (by simp; omega) (fun c => absurd (HI.out.own.lt _ c.symm).1 (by omega))).trans (Below.heap_alloc _ _ _ (by simp; omega)))); have y3 := (hgrow3.block wr.heap.size (by simp; omega) (fun c => absurd (HI.out.own.lt _ c.symm).2 (by omega))).trans (Below.heap_alloc _ _ _ (by simp)); have b0 := (World.cell?_of_block (a := ⟨wr.heap.size, 0, none⟩) y3).trans z0; have b1 := (World.cell?_of_block (a := ⟨wr.heap.size, 1, none⟩) y3).trans z1; have b2 := (World.cell?_of_block (a := ⟨wr.heap.size, 2, none⟩) y3).trans z2; have hown4 : w3.ownsRow (w.heap.size + 1) 34 3 v3 (out.length + 1) (encMr (out ++ [M])) := (by rw [encMr_app]; exact hown3); have hel4 := encMr_len (out ++ [M]); clear hown3 hgrow3 hown2 z0 z1 z2 y3) | (at_builtin; refine wpList_append_own _ rfl _ _ 24 rfl (w.heap.size + 1) 34 i0 (.agg #[.int .i64 0, .int .i64 0, .string ⟨#[]⟩]) 3 32 Tryd.underlying24 hi0 hz0 hz1 hz2 rfl (by decide) _ _ _ rfl (hown4.alloc _) ⟨w3.heap.size, 0, none⟩ 1 1 [.int .i64 x.frm, .int .i64 x.to, .string x.style] rfl rfl (cellC_new _ _ _ _ _) (by intro u hu; simp at hu; rcases hu with rfl | rfl | rfl <;> rfl) (by unfold maxLen; omega) (by omega) (by simp; omega) ?_; intro v5 w5 hown5 hgrow5 _; have hb5 := below_append hb3 (own_mono hown4 (Nat.le_succ _)) hsz4 hgrow5; have hx5 := hide (hx3.out.block ((hgrow5.block w.heap.size (by have := hx3.out.lt; simp; omega) (fun c => absurd (hown4.lt _ c.symm).1 (by omega))).trans (Below.heap_alloc _ _ _ hx3.out.lt))); have HO5 := hide hown5; clear hown5 hgrow5 hown4))
              have A := hide (HI.out.after0 hlt HXX.out HN.out HW.out HP.out HXL.out hx5.out HO5.out hb5)
              exact ⟨⟨k + 1, by omega, by go_num, true, rfl, _, rfl, _, _, A⟩, by simp [intOf]; omega⟩
            · have HN : Hid (mkLt x M = false) := hide (by rw [T3.out]; exact decide_eq_false g1)
              have HL : Hid (mkLt M x = false) := hide (by rw [T4.out]; exact decide_eq_false g2)
              by_cases g6 : x.frm < M.frm
              · by_cases g7 : M.to < x.to
                · have hsa : (wr.setCell ⟨w.heap.size, 0, none⟩ (.int .i64 x.frm)).heap.size = wr.heap.size := by simp [World.setCell]
                  obtain ⟨ya0, ya1, ya2⟩ := cellsE_new (wr.setCell ⟨w.heap.size, 0, none⟩ (.int .i64 x.frm)) (.int .i64 x.frm) (.int .i64 x.to) (.string x.style)
                  have za0 := ya0 34
                  have za1 := ya1 34
                  have za2 := ya2 34
                  rw [hsa] at za0 za1 za2
                  obtain ⟨pa0, pa1, pa2⟩ := ((HI.out.bx.set0 x.frm).up ((Below.refl _ _).alloc (Nat.le_refl _) (.cells #[.int .i64 x.frm, .int .i64 x.to, .string x.style] 34))).cells
                  have fa1 := ((HI.out.bx.set0 x.frm).up ((Below.refl _ _).alloc (Nat.le_refl _) (.cells #[.int .i64 x.frm, .int .i64 x.to, .string x.style] 34))).fz 1
                  clear ya0 ya1 ya2
                  have HE : Hid ((⟨x.frm, x.to, M.style⟩ : Mk) = mgM M x) := hide (by unfold mgM; congr 1 <;> omega)
                  have HT := hide (fun wr' b o e => HI.out.touch hlt HXX.out HN.out HL.out HXL.out HE.out (wr' := wr') b o e)
                  have HBX3 := hide ((HI.out.bx.set0 x.frm).set1 x.to)
                  have HO3 := hide (own_held (w2 := ((wr.setCell ⟨w.heap.size, 0, none⟩ (.int .i64 x.frm)).setCell ⟨w.heap.size, 1, none⟩ (.int .i64 x.to))) (own_held (w2 := (wr.setCell ⟨w.heap.size, 0, none⟩ (.int .i64 x.frm))) HI.out.own (fun b hb => Below.heap_setCell _ _ _ _ (fun e => absurd (HI.out.own.lt b hb).1 (by have e2 : b = w.heap.size := e; omega)))) (fun b hb => Below.heap_setCell _ _ _ _ (fun e => absurd (HI.out.own.lt b hb).1 (by have e2 : b = w.heap.size := e; omega))))
                  have HB3 := hide ((HI.out.bel.setCell (p := ⟨w.heap.size, 0, none⟩) (Nat.le_refl _) (.int .i64 x.frm)).setCell (p := ⟨w.heap.size, 1, none⟩) (Nat.le_refl _) (.int .i64 x.to))
                  clear hown2
                  go_wp2
                  have A := hide (HT.out _ (HBX3.out.up ((Below.refl _ _).alloc (Nat.le_refl _) (.cells #[.int .i64 x.frm, .int .i64 x.to, .string x.style] 34))) (HO3.out.alloc (.cells #[.int .i64 x.frm, .int .i64 x.to, .string x.style] 34)) (HB3.out.alloc HB3.out.size (.cells #[.int .i64 x.frm, .int .i64 x.to, .string x.style] 34)))
                  exact ⟨⟨k + 1, by omega, by go_num, false, rfl, _, rfl, _, _, A⟩, by simp [intOf]; omega⟩
                · have hsa : (wr.setCell ⟨w.heap.size, 0, none⟩ (.int .i64 x.frm)).heap.size = wr.heap.size := by simp [World.setCell]
                  obtain ⟨ya0, ya1, ya2⟩ := cellsE_new (wr.setCell ⟨w.heap.size, 0, none⟩ (.int .i64 x.frm)) (.int .i64 x.frm) (.int .i64 x.to) (.string x.style)
                  have za0 := ya0 34
                  have za1 := ya1 34
                  have za2 := ya2 34
                  rw [hsa] at za0 za1 za2
                  obtain ⟨pa0, pa1, pa2⟩ := ((HI.out.bx.set0 x.frm).up ((Below.refl _ _).alloc (Nat.le_refl _) (.cells #[.int .i64 x.frm, .int .i64 x.to, .string x.style] 34))).cells
                  have fa1 := ((HI.out.bx.set0 x.frm).up ((Below.refl _ _).alloc (Nat.le_refl _) (.cells #[.int .i64 x.frm, .int .i64 x.to, .string x.style] 34))).fz 1
                  clear ya0 ya1 ya2
                  have HE : Hid ((⟨x.frm, M.to, M.style⟩ : Mk) = mgM M x) := hide (by unfold mgM; congr 1 <;> omega)
                  have HT := hide (fun wr' b o e => HI.out.touch hlt HXX.out HN.out HL.out HXL.out HE.out (wr' := wr') b o e)
                  have HBX3 := hide (HI.out.bx.set0 x.frm)
                  have HO3 := hide (own_held (w2 := (wr.setCell ⟨w.heap.size, 0, none⟩ (.int .i64 x.frm))) HI.out.own (fun b hb => Below.heap_setCell _ _ _ _ (fun e => absurd (HI.out.own.lt b hb).1 (by have e2 : b = w.heap.size := e; omega))))
                  have HB3 := hide (HI.out.bel.setCell (p := ⟨w.heap.size, 0, none⟩) (Nat.le_refl _) (.int .i64 x.frm))
                  clear hown2
                  go_wp2
                  have A := hide (HT.out _ (HBX3.out.up ((Below.refl _ _).alloc (Nat.le_refl _) (.cells #[.int .i64 x.frm, .int .i64 x.to, .string x.style] 34))) (HO3.out.alloc (.cells #[.int .i64 x.frm, .int .i64 x.to, .string x.style] 34)) (HB3.out.alloc HB3.out.size (.cells #[.int .i64 x.frm, .int .i64 x.to, .string x.style] 34)))
                  exact ⟨⟨k + 1, by omega, by go_num, false, rfl, _, rfl, _, _, A⟩, by simp [intOf]; omega⟩
              · by_cases g7 : M.to < x.to
                · have HE : Hid ((⟨M.frm, x.to, M.style⟩ : Mk) = mgM M x) := hide (by unfold mgM; congr 1 <;> omega)
                  have HT := hide (fun wr' b o e => HI.out.touch hlt HXX.out HN.out HL.out HXL.out HE.out (wr' := wr') b o e)
                  have HBX3 := hide (HI.out.bx.set1 x.to)
                  have HO3 := hide (own_held (w2 := (wr.setCell ⟨w.heap.size, 1, none⟩ (.int .i64 x.to))) HI.out.own (fun b hb => Below.heap_setCell _ _ _ _ (fun e => absurd (HI.out.own.lt b hb).1 (by have e2 : b = w.heap.size := e; omega))))
                  have HB3 := hide (HI.out.bel.setCell (p := ⟨w.heap.size, 1, none⟩) (Nat.le_refl _) (.int .i64 x.to))
                  clear hown2
                  go_wp2
                  have A := hide (HT.out _ (HBX3.out.up ((Below.refl _ _).alloc (Nat.le_refl _) (.cells #[.int .i64 x.frm, .int .i64 x.to, .string x.style] 34))) (HO3.out.alloc (.cells #[.int .i64 x.frm, .int .i64 x.to, .string x.style] 34)) (HB3.out.alloc HB3.out.size (.cells #[.int .i64 x.frm, .int .i64 x.to, .string x.style] 34)))
                  exact ⟨⟨k + 1, by omega, by go_num, false, rfl, _, rfl, _, _, A⟩, by simp [intOf]; omega⟩
                · have HE : Hid ((⟨M.frm, M.to, M.style⟩ : Mk) = mgM M x) := hide (by unfold mgM; congr 1 <;> omega)
                  have HT := hide (fun wr' b o e => HI.out.touch hlt HXX.out HN.out HL.out HXL.out HE.out (wr' := wr') b o e)
                  have HBX3 := hide HI.out.bx
                  have HO3 := hide HI.out.own
                  have HB3 := hide HI.out.bel
                  clear hown2
                  go_wp2
                  have A := hide (HT.out _ (HBX3.out.up ((Below.refl _ _).alloc (Nat.le_refl _) (.cells #[.int .i64 x.frm, .int .i64 x.to, .string x.style] 34))) (HO3.out.alloc (.cells #[.int .i64 x.frm, .int .i64 x.to, .string x.style] 34)) (HB3.out.alloc HB3.out.size (.cells #[.int .i64 x.frm, .int .i64 x.to, .string x.style] 34)))
                  exact ⟨⟨k + 1, by omega, by go_num, false, rfl, _, rfl, _, _, A⟩, by simp [intOf]; omega⟩
        · obtain ⟨t1, t2, t3⟩ := lt_styles hc
          have t2' : (x.style.toList == M.style.toList) = false := by rw [← Bool.not_eq_true]; intro e; have := (eq_styles e).1; rw [this, bl_ir] at hc; cases hc
          have T1 := hide t1
          clear t1 t2
          have HW : Hid (mkLt M x = true) := hide (T1.out)
          have HN : Hid (mkLt x M = false) := hide (by unfold mkLt; rw [if_neg (by rw [t2']; simp)]; exact t3)
          go_wp2_with (first | (at_builtin; refine wpList_append_own _ rfl _ _ 24 rfl (w.heap.size + 1) 34 i0 (.agg #[.int .i64 0, .int .i64 0, .string ⟨#[]⟩]) 3 32 Tryd.underlying24 hi0 hz0 hz1 hz2 rfl (by decide) _ _ _ rfl (hown2.alloc _) ⟨wr.heap.size + 1, 0, none⟩ 1 1 [.int .i64 M.frm, .int .i64 M.to, .string M.style] rfl rfl (cellC_new2 _ _ _ _ _ _) (by intro u hu; simp at hu; rcases hu with rfl | rfl | rfl <;> rfl) (by unfold maxLen; omega) (by omega) (by simp; omega) ?_; intro v3 w3 hown3 hgrow3 _; have hb3 := below_append hbel2 (own_mono hown2 (Nat.le_succ _)) hsz2 hgrow3; have hsz4 := hb3.size; have hx3 := hide (HBX2.out.block ((hgrow3.block w.heap.size (by simp; omega) (fun c => absurd (HI.out.own.lt _ c.symm).1 (by omega))).trans (Below.heap_alloc _ _ _ (by simp; omega)))); have y3 := (hgrow3.block wr.heap.size (by simp; omega) (fun c => absurd (HI.out.own.lt _ c.symm).2 (by omega))).trans (Below.heap_alloc _ _ _ (by simp)); have b0 := (World.cell?_of_block (a := ⟨wr.heap.size, 0, none⟩) y3).trans z0; have b1 := (World.cell?_of_block (a := ⟨wr.heap.size, 1, none⟩) y3).trans z1; have b2 := (World.cell?_of_block (a := ⟨wr.heap.size, 2, none⟩) y3).trans z2; have hown4 : w3.ownsRow (w.heap.size + 1) 34 3 v3 (out.length + 1) (encMr (out ++ [M])) := (by rw [encMr_app]; exact hown3); have hel4 := encMr_len (out ++ [M]); clear hown3 hgrow3 hown2 z0 z1 z2 y3) | (at_builtin; refine wpList_append_own _ rfl _ _ 24 rfl (w.heap.size + 1) 34 i0 (.agg #[.int .i64 0, .int .i64 0, .string ⟨#[]⟩]) 3 32 Tryd.underlying24 hi0 hz0 hz1 hz2 rfl (by decide) _ _ _ rfl (hown4.alloc _) ⟨w3.heap.size, 0, none⟩ 1 1 [.int .i64 x.frm, .int .i64 x.to, .string x.style] rfl rfl (cellC_new _ _ _ _ _) (by intro u hu; simp at hu; rcases hu with rfl | rfl | rfl <;> rfl) (by unfold maxLen; omega) (by omega) (by simp; omega) ?_; intro v5 w5 hown5 hgrow5 _; have hb5 := below_append hb3 (own_mono hown4 (Nat.le_succ _)) hsz4 hgrow5; have hx5 := hide (hx3.out.block ((hgrow5.block w.heap.size (by have := hx3.out.lt; simp; omega) (fun c => absurd (hown4.lt _ c.symm).1 (by omega))).trans (Below.heap_alloc _ _ _ hx3.out.lt))); have HO5 := hide hown5; clear hown5 hgrow5 hown4))
          have A := hide (HI.out.after0 hlt HXX.out HN.out HW.out HP.out HXL.out hx5.out HO5.out hb5)
          exact ⟨⟨k + 1, by omega, by go_num, true, rfl, _, rfl, _, _, A⟩, by simp [intOf]; omega⟩
      | true =>
        have hML := HI.out.ml
        rcases lt_after HXL.out hML (HI.out.aft rfl x (by rw [List.drop_eq_getElem_cons hlt, ← HXX.out]; simp)) with hc | ⟨hc, g2, g1⟩
        · obtain ⟨t1, t2, t3⟩ := lt_styles hc
          have t2' : (x.style.toList == M.style.toList) = false := by rw [← Bool.not_eq_true]; intro e; have := (eq_styles e).1; rw [this, bl_ir] at hc; cases hc
          clear t1 t2
          go_wp2_with (at_builtin; refine wpList_append_own _ rfl _ _ 24 rfl (w.heap.size + 1) 34 i0 (.agg #[.int .i64 0, .int .i64 0, .string ⟨#[]⟩]) 3 32 Tryd.underlying24 hi0 hz0 hz1 hz2 rfl (by decide) _ _ _ rfl (hown2.alloc _) ⟨wr.heap.size + 1, 0, none⟩ 1 1 [.int .i64 x.frm, .int .i64 x.to, .string x.style] rfl rfl (cellC_new2 _ _ _ _ _ _) (by intro u hu; simp at hu; rcases hu with rfl | rfl | rfl <;> rfl) (by unfold maxLen; omega) (by omega) (by simp; omega) ?_; intro v3 w3 hown3 hgrow3 _; have hb3 := below_append hbel2 (own_mono hown2 (Nat.le_succ _)) hsz2 hgrow3; have hx3 := hide (HBX2.out.block ((hgrow3.block w.heap.size (by simp; omega) (fun c => absurd (HI.out.own.lt _ c.symm).1 (by omega))).trans (Below.heap_alloc _ _ _ (by simp; omega)))); have HO3 := hide hown3; clear hown3 hgrow3 hown2)
          have A := hide (HI.out.after1 hlt HXX.out hx3.out HO3.out hb3)
          exact ⟨⟨k + 1, by omega, by go_num, true, rfl, _, rfl, _, _, A⟩, by simp [intOf]; omega⟩
        · obtain ⟨t0, t1, t2, t3, t4⟩ := eq_styles hc
          clear t0 t3 t4
          go_wp2_with (at_builtin; refine wpList_append_own _ rfl _ _ 24 rfl (w.heap.size + 1) 34 i0 (.agg #[.int .i64 0, .int .i64 0, .string ⟨#[]⟩]) 3 32 Tryd.underlying24 hi0 hz0 hz1 hz2 rfl (by decide) _ _ _ rfl (hown2.alloc _) ⟨wr.heap.size + 1, 0, none⟩ 1 1 [.int .i64 x.frm, .int .i64 x.to, .string x.style] rfl rfl (cellC_new2 _ _ _ _ _ _) (by intro u hu; simp at hu; rcases hu with rfl | rfl | rfl <;> rfl) (by unfold maxLen; omega) (by omega) (by simp; omega) ?_; intro v3 w3 hown3 hgrow3 _; have hb3 := below_append hbel2 (own_mono hown2 (Nat.le_succ _)) hsz2 hgrow3; have hx3 := hide (HBX2.out.block ((hgrow3.block w.heap.size (by simp; omega) (fun c => absurd (HI.out.own.lt _ c.symm).1 (by omega))).trans (Below.heap_alloc _ _ _ (by simp; omega)))); have HO3 := hide hown3; clear hown3 hgrow3 hown2)
          have A := hide (HI.out.after1 hlt HXX.out hx3.out HO3.out hb3)
          exact ⟨⟨k + 1, by omega, by go_num, true, rfl, _, rfl, _, _, A⟩, by simp [intOf]; omega⟩
    · obtain rfl : k = l.length := by omega
      cases put with
      | true =>
        have hE := HI.out.eq
        rw [if_pos rfl, List.drop_length, List.append_nil] at hE
        have HF : Hid (MrOwn wr w.heap.size v (addL l m)) := hide (by rw [hE]; exact own_mono HI.out.own (Nat.le_succ _))
        clear hE
        go_wp2
        go_ret
        exact ⟨_, rfl, HF.out, hbel⟩
      | false =>
        have hE := HI.out.eq
        rw [if_neg (by simp), List.drop_length, addL] at hE
        have HE := hide hE
        obtain ⟨p0, p1, p2⟩ := HI.out.bx.cells
        have hown2 := HI.out.own
        have hsz2 := hbel.size
        clear hE
        go_wp2_with (at_builtin; refine wpList_append_own _ rfl _ _ 24 rfl (w.heap.size + 1) 34 i0 (.agg #[.int .i64 0, .int .i64 0, .string ⟨#[]⟩]) 3 32 Tryd.underlying24 hi0 hz0 hz1 hz2 rfl (by decide) _ _ _ rfl (hown2.alloc _) ⟨wr.heap.size, 0, none⟩ 1 1 [.int .i64 M.frm, .int .i64 M.to, .string M.style] rfl rfl (cellC_new _ _ _ _ _) (by intro u hu; simp at hu; rcases hu with rfl | rfl | rfl <;> rfl) (by unfold maxLen; omega) (by omega) (by simp; omega) ?_; intro v3 w3 hown3 hgrow3 _; have hb3 := below_append hbel (own_mono hown2 (Nat.le_succ _)) hsz2 hgrow3; have HO3 := hide hown3; clear hown3 hgrow3 hown2)
        have HF : Hid (MrOwn w3 w.heap.size v3 (addL l m)) := hide (by rw [HE.out]; unfold MrOwn; rw [encMr_app, List.length_append]; exact own_mono HO3.out (Nat.le_succ _))
        go_ret
        exact ⟨_, rfl, HF.out, hb3⟩
end Go.Proofs.YtbooongkbninhaaDoor

namespace Go.Proofs.YtbooongkbninhaaDoor
open Go.RowKit
open Doc1

theorem addL_ne : ∀ (l : List Mk) (m : Mk), addL l m ≠ []
  | [], m => by simp [addL]
  | x :: l, m => by
    rw [addL]
    split
    · simp
    · split
      · simp
      · exact addL_ne l _
theorem mr_shape {w : World} {B : Nat} {v : Value} {L : List Mk} (h : MrOwn w B v L) (hL : L ≠ []) : ∃ r cp, v = .slice (some r) L.length cp := by
  rcases h.2 with ⟨hv, hn⟩ | ⟨r, cp, cur, hv, hrb, hh, k1, k2, k3, k4⟩
  · exact absurd (List.length_eq_zero_iff.1 hn) hL
  · exact ⟨_, _, hv⟩

set_option maxRecDepth 100000 in
set_option maxHeartbeats 8000000 in
theorem addS {w : World} {g cap : Nat} {l : List Mk} (size : Int) (m : Mk) (hst : m.style.size ≤ 1048576) (h : MrIn w g cap l) :
    Calls Tryd.prog 14 #[.slice (some ⟨g, 0, none⟩) l.length cap, .int .i64 size, .agg #[.int .i64 m.frm, .int .i64 m.to, .string m.style]] w (RsPost (goodM l size && mkOk size m) (addL l m) w) := by
  have hcp := h.cap
  have hln := h.len
  obtain ⟨y0, y1, y2⟩ := cellsE_new w (.int .i64 m.frm) (.int .i64 m.to) (.string m.style)
  have z0 := y0 34
  have z1 := y1 34
  have z2 := y2 34
  have hb0 : Below w.heap.size w (w.alloc (.cells #[.int .i64 m.frm, .int .i64 m.to, .string m.style] 34)) := (Below.refl _ _).alloc (Nat.le_refl _) _
  have hs0 : (w.alloc (.cells #[.int .i64 m.frm, .int .i64 m.to, .string m.style] 34)).heap.size = w.heap.size + 1 := by simp
  have G := hide (goodMarksS size (h.later hb0))
  have I := fun w => l5Mark_any m size w hst
  unfold mrV at I
  replace I := hide I
  have H := hide h
  have HB0 := hide hb0
  clear h y0 y1 y2 hb0
  cases hg : goodM l size with
  | false =>
    rw [hg] at G
    have HN : Hid (∀ w', Below w.heap.size w w' → RsPost (false && mkOk size m) (addL l m) w (.returned (.tuple #[.slice none 0 0, .bool false])) w') := hide (fun w' hb => rs_no rfl hb)
    clear hg
    go_enter Tryd.func14, Tryd.ntmps14
    go_wp2_with (go_at_call 30; refine G.out.mono ?_; rintro e w1 ⟨rfl, hb1⟩)
    go_ret2
    exact HN.out _ (HB0.out.trans (hb1.mono (by omega)))
  | true =>
    rw [hg] at G
    cases hm : mkOk size m with
    | false =>
      rw [hm] at I
      have HN : Hid (∀ w', Below w.heap.size w w' → RsPost (true && false) (addL l m) w (.returned (.tuple #[.slice none 0 0, .bool false])) w') := hide (fun w' hb => rs_no rfl hb)
      clear hg hm
      go_enter Tryd.func14, Tryd.ntmps14
      go_wp2_with (first | (go_at_call 30; refine G.out.mono ?_; rintro e w1 ⟨rfl, hb1⟩; have x1 := hb1.block w.heap.size (by omega); have b0 := (World.cell?_of_block (a := ⟨w.heap.size, 0, none⟩) x1).trans z0; have b1 := (World.cell?_of_block (a := ⟨w.heap.size, 1, none⟩) x1).trans z1; have b2 := (World.cell?_of_block (a := ⟨w.heap.size, 2, none⟩) x1).trans z2; clear x1 z0 z1 z2) | (go_at_call 37; refine (I.out _).mono ?_; rintro e w2 ⟨rfl, hb2⟩))
      go_ret2
      have hs1 := hb1.size
      exact HN.out _ (HB0.out.trans ((hb1.trans (hb2.mono hs1)).mono (by omega)))
    | true =>
      rw [hm] at I
      obtain ⟨hpw, hok⟩ := good_pw hg
      have hlts : ∀ x ∈ l, x.frm < x.to := fun x hx => (mkOk_lt (hok x hx)).1
      have hml := (mkOk_lt hm).1
      obtain ⟨hz, h40⟩ := goodM_nums hg
      have L5 := hide (fun w1 (h1 : MrIn w1 g cap l) => l5Add_any m hst hml h1 hpw hlts)
      have hal := addL_len l m
      clear hg hm hpw hok hlts hml
      by_cases h5 : 40 < (addL l m).length
      · have h5' : (40 : Int) < ((addL l m).length : Int) := by omega
        have H5 := hide h5
        clear h5
        go_enter Tryd.func14, Tryd.ntmps14
        go_wp2_with (first | (go_at_call 30; refine G.out.mono ?_; rintro e w1 ⟨rfl, hb1⟩; have x1 := hb1.block w.heap.size (by omega); have b0 := (World.cell?_of_block (a := ⟨w.heap.size, 0, none⟩) x1).trans z0; have b1 := (World.cell?_of_block (a := ⟨w.heap.size, 1, none⟩) x1).trans z1; have b2 := (World.cell?_of_block (a := ⟨w.heap.size, 2, none⟩) x1).trans z2; clear x1 z0 z1 z2; have hs1 := hb1.size) | (go_at_call 37; refine (I.out _).mono ?_; rintro e w2 ⟨rfl, hb2⟩; have hs2 := hb2.size; have x2 := hb2.block w.heap.size (by omega); have d0 := (World.cell?_of_block (a := ⟨w.heap.size, 0, none⟩) x2).trans b0; have d1 := (World.cell?_of_block (a := ⟨w.heap.size, 1, none⟩) x2).trans b1; have d2 := (World.cell?_of_block (a := ⟨w.heap.size, 2, none⟩) x2).trans b2; clear x2 b0 b1 b2; have HB2 := hide (HB0.out.trans ((hb1.trans (hb2.mono hs1)).mono (by omega))); have L := hide (L5.out w2 (H.out.later HB2.out))) | (go_at_call 32; refine L.out.mono ?_; rintro e w3 ⟨v3, rfl, hown3, hb3⟩; have HOW := hide hown3; have HB3 := hide hb3; clear hown3 hb3 d0 d1 d2; obtain ⟨r, cp, hv⟩ := mr_shape HOW.out (addL_ne l m); subst hv))
        go_ret2
        have hs2' := HB2.out.size
        refine rs_yes rfl (HB2.out.trans (HB3.out.mono hs2')) hs2' ?_
        unfold MkPost
        rw [if_pos H5.out]
        rfl
      · have h5' : ((addL l m).length : Int) ≤ 40 := by omega
        have H5 := hide h5
        clear h5
        go_enter Tryd.func14, Tryd.ntmps14
        go_wp2_with (first | (go_at_call 30; refine G.out.mono ?_; rintro e w1 ⟨rfl, hb1⟩; have x1 := hb1.block w.heap.size (by omega); have b0 := (World.cell?_of_block (a := ⟨w.heap.size, 0, none⟩) x1).trans z0; have b1 := (World.cell?_of_block (a := ⟨w.heap.size, 1, none⟩) x1).trans z1; have b2 := (World.cell?_of_block (a := ⟨w.heap.size, 2, none⟩) x1).trans z2; clear x1 z0 z1 z2; have hs1 := hb1.size) | (go_at_call 37; refine (I.out _).mono ?_; rintro e w2 ⟨rfl, hb2⟩; have hs2 := hb2.size; have x2 := hb2.block w.heap.size (by omega); have d0 := (World.cell?_of_block (a := ⟨w.heap.size, 0, none⟩) x2).trans b0; have d1 := (World.cell?_of_block (a := ⟨w.heap.size, 1, none⟩) x2).trans b1; have d2 := (World.cell?_of_block (a := ⟨w.heap.size, 2, none⟩) x2).trans b2; clear x2 b0 b1 b2; have HB2 := hide (HB0.out.trans ((hb1.trans (hb2.mono hs1)).mono (by omega))); have L := hide (L5.out w2 (H.out.later HB2.out))) | (go_at_call 32; refine L.out.mono ?_; rintro e w3 ⟨v3, rfl, hown3, hb3⟩; have HOW := hide hown3; have HB3 := hide hb3; clear hown3 hb3 d0 d1 d2; obtain ⟨r, cp, hv⟩ := mr_shape HOW.out (addL_ne l m); subst hv))
        go_ret2
        have hs2' := HB2.out.size
        refine rs_yes rfl (HB2.out.trans (HB3.out.mono hs2')) hs2' ?_
        unfold MkPost
        rw [if_neg H5.out]
        exact ⟨_, rfl, HOW.out⟩
end Go.Proofs.YtbooongkbninhaaDoor
