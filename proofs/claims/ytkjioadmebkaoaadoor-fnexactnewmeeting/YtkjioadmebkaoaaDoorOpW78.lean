/- The contract of impl.NormalOp. The contract of impl.InvertOp. -/
import Derived.Test.YtkjioadmebkaoaaDoorGatM
import Derived.Test.YtkjioadmebkaoaaDoorBoxes
import Derived.Test.YtkjioadmebkaoaaDoorOpSM
namespace Go.Proofs.YtkjioadmebkaoaaDoor
open Go.RowKit Go.Shelf
open Doc1

attribute [local go_sem] Oper.semAt_some

/-- What is gathered between two rounds. -/
def JG (gb : Nat) (F : St → St) (pre : List St) (O : Nat → Prop) (W : World) : Prop := GR gb (gath g0 (pre.map F)) O W
theorem jG_held (gb : Nat) (F : St → St) : Held (JG gb F) := ⟨fun h => (gr_held gb).lt h, fun h hs hk => (gr_held gb).kept h hs hk⟩
/-- Within a round: besides, the box of the step. -/
def GAx (gb : Nat) (F : St → St) (act : St → Nat → Act) (pre : List St) (x : St) (a' : Act) (B : Nat → Prop) (W : World) : Prop :=
  ∃ V Bx, Gt gb V (gath g0 (pre.map F)) W ∧ (∀ k, B k ↔ OB gb V k ∨ k = Bx) ∧ ¬ OB gb V Bx ∧ Box2 W Bx (.int .i64 (x.k : Int)) (.int .u8 (x.c.toNat : Int)) ∧ a' = act x Bx
theorem gAx_held (gb : Nat) (F : St → St) (act : St → Nat → Act) (pre : List St) (x : St) (a' : Act) : Held (fun (_ : Unit) => GAx gb F act pre x a') :=
  ⟨fun ⟨V, Bx, h, hB, _, hx, _⟩ k hk => by
      rcases (hB k).1 hk with c | rfl
      · exact h.ltO c
      · exact hx.lt,
    fun ⟨V, Bx, h, hB, hn, hx, ha⟩ _ hk => ⟨V, Bx, h.kept (fun k c => hk k ((hB k).2 (.inl c))), hB, hn, hx.block (hk Bx ((hB Bx).2 (.inr rfl))), ha⟩⟩
theorem gath_snoc (F : St → St) (pre : List St) (x : St) : gath g0 ((pre ++ [x]).map F) = (gath g0 (pre.map F)).add (F x) := by simp [gath]
/-- A new gathering. -/
theorem gt_new (w : World) (t : TypeId) : Gt w.heap.size (fun j => if j = 1 then .int .i64 0 else .slice none 0 0) g0 (w.alloc (.cells #[.slice none 0 0, .int .i64 0, .slice none 0 0, .slice none 0 0] t)) := by
  have hh := heap_alloc_new w (.cells #[.slice none 0 0, .int .i64 0, .slice none 0 0, .slice none 0 0] t)
  have nil : ∀ (w' : World) (e : TypeId) (n : Nat), w'.ownsRow 0 e n (.slice none 0 0) 0 [] := fun w' e n => ⟨by simp, .inl ⟨rfl, rfl⟩⟩
  refine ⟨fun j hj => ?_, fun j => ?_, fun j hj => ?_, fun i j _ _ _ x hx => ?_, fun j _ hx => ?_⟩
  · have : j = 0 ∨ j = 1 ∨ j = 2 ∨ j = 3 := by omega
    rcases this with rfl | rfl | rfl | rfl <;> (unfold World.cell?; rw [hh]; rfl)
  · unfold World.frozen?
    rw [hh]
    simp
  · have : j = 0 ∨ j = 1 ∨ j = 2 ∨ j = 3 := by omega
    rcases this with rfl | rfl | rfl | rfl
    · exact nil _ _ _
    · rfl
    · exact nil _ _ _
    · exact nil _ _ _
  · split at hx <;> cases hx
  · split at hx <;> cases hx
theorem ob_new {g k : Nat} (h : OB g (fun j => if j = 1 then .int .i64 0 else .slice none 0 0) k) : k = g := by
  rcases h with e | ⟨j, _, hx⟩
  · exact e
  · simp only at hx; split at hx <;> cases hx
theorem own_raise {w : World} {B n sz : Nat} {e : TypeId} {v : Value} {xs : List Value} (h : w.ownsRow 0 e sz v n xs) (hB : ∀ x, v.ownBlock = some x → B ≤ x) : w.ownsRow B e sz v n xs := by
  refine ⟨h.1, ?_⟩
  rcases h.2 with hn | ⟨g', cap, cur, hv, _, rest⟩
  · exact .inl hn
  · exact .inr ⟨g', cap, cur, hv, hB g' (by rw [hv]; rfl), rest⟩
/-- The block of the gathering and the box of the list, whatever their types. -/
theorem gath_boxes {Φ : World → Prop} {W : World} {v : Value} {t u : TypeId}
    (h : ∀ W2 : World, Below W.heap.size W W2 → W2.heap.size = W.heap.size + 2 → Gt W.heap.size (fun j => if j = 1 then .int .i64 0 else .slice none 0 0) g0 W2 → W2.cell? ⟨W.heap.size + 1, 0, none⟩ = some v → Φ W2) :
    Φ ((W.alloc (.cells #[.slice none 0 0, .int .i64 0, .slice none 0 0, .slice none 0 0] t)).alloc (.cells #[v] u)) := by
  refine h _ (((Below.refl _ _).alloc (Nat.le_refl _) _).alloc (by simp) _) (by simp) ((gt_new W t).up ((Below.refl _ _).alloc (Nat.le_refl _) _)) ?_
  rw [show W.heap.size + 1 = (W.alloc (.cells #[.slice none 0 0, .int .i64 0, .slice none 0 0, .slice none 0 0] t)).heap.size by simp]
  unfold World.cell?
  rw [heap_alloc_new]; rfl
/-- Behind the loop over the steps: what whole needs, and what it leaves. -/
theorem whole_end {w W2 W : World} {gb D : Nat} {O : Nat → Prop} {l : List St} (hl : l.length ≤ 600) (hT : Tab w) (hb : Below w.heap.size w W2) (hgb : w.heap.size ≤ gb) (hD : w.heap.size ≤ D) (hgr : GR gb (gath g0 l) O W) (mv : Moves (OB gb (fun j => if j = 1 then .int .i64 0 else .slice none 0 0)) W2 O W) (hnD : ¬ O D) (hK : W.heap[D]? = some (.deferred (some []))) :
    Calls Tryd.prog 190 #[.pointer (some ⟨gb, 0, none⟩)] W fun e w' => ∃ v, e = .returned (.tuple #[v, .bool (goodO (gath g0 l).out)]) ∧ w'.heap[D]? = some (.deferred (some [])) ∧
      POwn (w'.putObj D (.deferred none)) w.heap.size v (if goodO (gath g0 l).out then (gath g0 l).out else []) ∧ Below w.heap.size w (w'.putObj D (.deferred none)) := by
  obtain ⟨V, hV, rfl⟩ := hgr
  have hsz := hb.size
  have lt0 := hT.lt
  have no : ∀ k, k < w.heap.size → ¬ OB gb V k := fun k hk c => by
    have := ob_new (mv.own k (by omega) c)
    omega
  have hbW : Below w.heap.size w W := hb.trans (mv.below hsz (fun k hk c => by have := ob_new c; omega))
  have hTW := hT.block (hbW.block _ lt0)
  have hgb0 := gb_gath l g0 0 gb0
  have hgs0 := gs_gath l g0 0 gb0 (fun p hp => by simp [g0] at hp)
  refine (whole_any hV hgb0 hgs0 (by omega) hTW (no _ lt0)).mono ?_
  rintro e w' ⟨v, rfl, ⟨O', mv'⟩, ho, hin⟩
  have ltD := (Array.getElem?_eq_some_iff.1 hK).1
  have hK' := (mv'.same D ltD hnD).trans hK
  have hszW := hbW.size
  have hvb : ∀ x, v.ownBlock = some x → w.heap.size ≤ x ∧ x ≠ D := by
    intro x hx
    by_cases hlt : x < W.heap.size
    · have hO := hin x hx hlt
      exact ⟨Nat.le_of_not_lt (fun c => no x c hO), fun e => hnD (e ▸ hO)⟩
    · exact ⟨by omega, by omega⟩
  have hb' : Below w.heap.size w w' := hbW.trans (mv'.below hszW no)
  refine ⟨v, rfl, hK', own_raise (own_move ho (fun x hx => World.putObj_heap_other (hvb x hx).2)) (fun x hx => (hvb x hx).1), ?_⟩
  exact hb'.trans ⟨rfl, rfl, rfl, by simp, fun k hk => World.putObj_heap_other (by omega)⟩

theorem normG {l : List Pt} (h : goodO l = true) : goodO (gath g0 ((stL l).map id)).out = true ∧ (gath g0 ((stL l).map id)).out = normL l := by
  have hp := goodO_pk h
  obtain ⟨h60, ht, hm⟩ := goodO_le h
  rw [List.map_id, ← norm_gath l hp]
  refine ⟨?_, rfl⟩
  rw [norm_gath l hp, goodO_gath _ (stL_so hp)]
  have hs := stL_sums l hp
  have hl := (norm_bd l hp l.length (Nat.le_refl _)).1
  rw [List.take_length, norm_gath l hp] at hl
  exact decide_eq_true ⟨by omega, by omega, by omega⟩

end Go.Proofs.YtkjioadmebkaoaaDoor

namespace Go.Proofs.YtkjioadmebkaoaaDoor
open Go.RowKit Go.Shelf
open Doc1

attribute [local go_sem] Oper.semAt_some

/-- What is put is dropped, and what is dropped is put. -/
def flip (x : St) : St := if x.k = 2 then ⟨3, x.c⟩ else if x.k = 3 then ⟨2, x.c⟩ else x
theorem stp_inv {p : Pt} (h : pk p ≠ 0) : stp (invP p) = (stp p).map flip := by
  have key : p.put.data.toList = [] ∨ p.drop.data.toList = [] := by
    unfold pk at h
    split at h
    · rename_i hh; exact .inl hh.1
    · split at h
      · rename_i hh; exact .inr hh.2.1
      · split at h
        · rename_i hh; exact .inl hh.2.1
        · exact absurd rfl h
  unfold stp invP
  simp only [List.map_append, List.map_replicate, List.map_map]
  rcases key with e | e
  · rw [e]; simp [flip, Function.comp_def]
  · rw [e]; simp [flip, Function.comp_def]
theorem stL_inv : ∀ (l : List Pt), (∀ p ∈ l, pk p ≠ 0) → stL (l.map invP) = (stL l).map flip
  | [], _ => rfl
  | p :: l, h => by
    have e1 : stL ((p :: l).map invP) = stp (invP p) ++ stL (l.map invP) := by simp [stL]
    have e2 : stL (p :: l) = stp p ++ stL l := by simp [stL]
    rw [e1, e2, List.map_append, stp_inv (h p (List.mem_cons_self)), stL_inv l (fun x hx => h x (List.mem_cons_of_mem _ hx))]
theorem sums_inv (l : List Pt) : tkL (l.map invP) = mkL l ∧ mkL (l.map invP) = tkL l := by
  unfold tkL mkL
  simp only [List.map_map]
  exact ⟨rfl, rfl⟩
theorem goodO_inv {l : List Pt} (h : goodO l = true) : goodO (l.map invP) = true := by
  have hp := inv_pk (goodO_pk h)
  obtain ⟨h1, h2, h3⟩ := goodO_le h
  have hs := sums_inv l
  rw [goodO_sums (by simpa using h1) (all_gp hp), hs.1, hs.2]
  exact decide_eq_true ⟨h3, h2⟩
theorem invG {l : List Pt} (h : goodO l = true) : goodO (gath g0 ((stL l).map flip)).out = true ∧ (gath g0 ((stL l).map flip)).out = normL (l.map invP) := by
  have := normG (goodO_inv h)
  rw [List.map_id, stL_inv l (goodO_pk h)] at this
  exact this

set_option maxRecDepth 100000 in
set_option maxHeartbeats 4000000 in
theorem invertI {w : World} {aw : Option Addr} {g cap : Nat} {l : List Pt} (h : Pin w aw g cap l) (hT : Tab w) :
    Calls Tryd.prog 156 #[.slice aw l.length cap] w fun e w' => ∃ v, e = .returned (.tuple #[v, .bool (goodO l)]) ∧ POwn w' w.heap.size v (invO l) ∧ Below w.heap.size w w' := by
  have G := goodOpI h hT
  unfold invO
  cases hg : goodO l with
  | false =>
    rw [hg] at G
    simp only [Bool.false_eq_true, if_false]
    have G := hide G
    clear h
    go_enter Tryd.func156, Tryd.ntmps156
    go_wp2_with fail
    refine G.out.mono ?_
    rintro e w1 ⟨rfl, hb⟩
    go_wp2
    go_ret2
    exact ⟨_, rfl, World.ownsRow_nil _ _ _ _, hb⟩
  | true =>
    rw [hg] at G
    simp only [if_true]
    obtain ⟨hn1, hn2⟩ := invG hg
    have hst := st_len hg
    have hpk := goodO_pk hg
    have G := hide G
    have H := hide h
    have HN1 := hide hn1
    have HN2 := hide hn2
    have SO := hide (fun w' => stepsOf_any (.slice aw l.length cap) w' _ _ _ rfl)
    have hHT := hide hT
    clear h hT hn1 hn2 hg
    have hdep : Fence.wide.depth = none := rfl
    refine (callsIn_wide (n := 6)).1 ?_
    refine callsIn_of_wp_marks Tryd.func156 rfl trivial ?_ rfl
    simp only [Tryd.ntmps156, List.size_toArray, List.length_cons, List.length_nil, Nat.reduceAdd, Nat.reduceSub, Array.replicate_succ, Array.replicate_zero, List.push_toArray, List.append_toArray, List.nil_append, List.cons_append]
    gi_wp2_with (first
      | (refine ⟨trivial, ?_⟩; gi_at_call 182; refine (callsIn_wide.2 G.out).mono ?_; rintro e w1 ⟨rfl, hb1⟩)
      | (refine ⟨trivial, ?_⟩; gi_at_call 87; refine (callsIn_wide.2 (SO.out _)).mono ?_; rintro e w' ⟨rfl, hw⟩; replace hw := hw.symm; subst hw))
    refine gath_boxes (Φ := fun W2 => Code.wpIn _ _ _ _ _ _ W2) ?_
    intro W2 hB2 hs2 hgt cs
    have hbW : Below w.heap.size w W2 := hb1.trans (hB2.mono hb1.size)
    have hs1 := hb1.size
    have pin2 := H.out.later hbW
    have tab2 := hHT.out.below hbW
    have ltT := hHT.out.lt
    have ltg := H.out.lt
    refine wpIn_range rfl (enters_of Tryd.func152 (by kernel_rfl) rfl) (steps_iter pin2 tab2 cs hpk) (fun _ => rfl)
      (J := JG w1.heap.size flip) (Jx := fun _ _ _ _ => False) (O := OB w1.heap.size (fun j => if j = 1 then .int .i64 0 else .slice none 0 0)) (jG_held _ _) (fun _ => no_held) (Nat.le_refl _)
      (by
        rintro k (rfl | rfl | rfl)
        · exact ⟨by omega, rfl, fun c => by have := ob_new c; omega⟩
        · exact ⟨by omega, rfl, fun c => by have := ob_new c; omega⟩
        · exact ⟨by omega, rfl, fun c => by have := ob_new c; omega⟩)
      ⟨_, hgt, rfl⟩
      (gAx_held w1.heap.size flip (fun x Bx => { tmps := #[.slice aw l.length cap, undef, .slice none 0 0, .bool false, .pointer (some ⟨w1.heap.size, 0, none⟩), .pointer (some ⟨Bx, 0, none⟩), .slice aw l.length cap, .bool true, .bool false, .slice aw l.length cap, .func (.func 152) #[] #[.pointer (some ⟨w1.heap.size + 1, 0, none⟩)], .agg #[.int .i64 (x.k : Int), .int .u8 (x.c.toNat : Int)], undef, undef, undef, undef, undef, undef, undef, undef, undef, undef, undef, undef, undef], defers := [] }))
      ?assigned ?round ?done ?stop
    case assigned =>
      rintro l1 pre x O W K ⟨V, hV, rfl⟩ hx hK
      have hbx := box2_new W (.int .i64 (x.k : Int)) (.int .u8 (x.c.toNat : Int))
      simp only [stE, stV]
      gi_wp2
      exact hK _ _ _ ((Moves.refl _ _).alloc _) ⟨V, W.heap.size, hV.up ((Below.refl _ _).alloc (Nat.le_refl _) _), fun _ => Iff.rfl, fun c => absurd (hV.ltO c) (by omega), hbx _, rfl⟩
    case round =>
      rintro l1 pre x a' O W ⟨V, Bx, hV, hB, hn, hbx, rfl⟩ hl1 hnl hx
      have hlen : pre.length ≤ 600 := by have := pre_len hx; simp at this; omega
      have hgb := gb_gath (pre.map flip) g0 0 gb0
      have hso := (stL_so hpk x (hx.subset (by simp))).1
      have HB := hide hB
      obtain ⟨c0, c1⟩ := hbx.cells
      have f0 := hbx.fz 0
      clear hB hbx
      obtain ⟨k, c⟩ := x
      rcases hso with e | e | e <;> (simp only at e; subst e)
      · have AD := hide (add_any ⟨1, c⟩ (.inl rfl) hV hgb (by simp; omega))
        unfold stV at AD
        clear hV hgb
        gi_wp2_with (refine ⟨trivial, ?_⟩; gi_at_call 189; refine (callsIn_wide.2 AD.out).mono ?_; rintro e w2 ⟨rfl, V', hV', mv⟩)
        refine ⟨OB w1.heap.size V', mv.wider (fun k _ c => (HB.out k).2 (.inl c)) (fun k hk c => (HB.out k).2 (.inl (mv.own k hk c))), V', ?_, rfl⟩
        rw [gath_snoc]; exact hV'
      · have d0 : (W.setCell ⟨Bx, 0, none⟩ (.int .i64 3)).cell? ⟨Bx, 0, none⟩ = some (.int .i64 3) := World.cell?_setCell_same _ _ _ c0
        have d1 : (W.setCell ⟨Bx, 0, none⟩ (.int .i64 3)).cell? ⟨Bx, 1, none⟩ = some (.int .u8 (c.toNat : Int)) := by rw [World.cell?_setCell_other _ _ _ _ (off_neP (by omega))]; exact c1
        have hVs : Gt w1.heap.size V (gath g0 (pre.map flip)) (W.setCell ⟨Bx, 0, none⟩ (.int .i64 3)) := hV.kept (fun k hk => Below.heap_setCell _ _ _ _ (fun e => by subst e; exact hn hk))
        have AD := hide (add_any ⟨3, c⟩ (.inr (.inr rfl)) hVs hgb (by simp; omega))
        have mv0 : Moves O W O (W.setCell ⟨Bx, 0, none⟩ (.int .i64 3)) := (Moves.refl _ _).setCell (fun _ => (HB.out Bx).2 (.inr rfl)) _
        unfold stV at AD
        clear hV hgb hVs
        gi_wp2_with (refine ⟨trivial, ?_⟩; gi_at_call 189; refine (callsIn_wide.2 AD.out).mono ?_; rintro e w2 ⟨rfl, V', hV', mv⟩)
        have mvw : Moves O (W.setCell ⟨Bx, 0, none⟩ (.int .i64 3)) (OB w1.heap.size V') w2 := mv.wider (fun k _ c => (HB.out k).2 (.inl c)) (fun k hk c => (HB.out k).2 (.inl (mv.own k hk c)))
        refine ⟨OB w1.heap.size V', mv0.trans mvw, V', ?_, rfl⟩
        rw [gath_snoc]; exact hV'
      · have d0 : (W.setCell ⟨Bx, 0, none⟩ (.int .i64 2)).cell? ⟨Bx, 0, none⟩ = some (.int .i64 2) := World.cell?_setCell_same _ _ _ c0
        have d1 : (W.setCell ⟨Bx, 0, none⟩ (.int .i64 2)).cell? ⟨Bx, 1, none⟩ = some (.int .u8 (c.toNat : Int)) := by rw [World.cell?_setCell_other _ _ _ _ (off_neP (by omega))]; exact c1
        have hVs : Gt w1.heap.size V (gath g0 (pre.map flip)) (W.setCell ⟨Bx, 0, none⟩ (.int .i64 2)) := hV.kept (fun k hk => Below.heap_setCell _ _ _ _ (fun e => by subst e; exact hn hk))
        have AD := hide (add_any ⟨2, c⟩ (.inr (.inl rfl)) hVs hgb (by simp; omega))
        have mv0 : Moves O W O (W.setCell ⟨Bx, 0, none⟩ (.int .i64 2)) := (Moves.refl _ _).setCell (fun _ => (HB.out Bx).2 (.inr rfl)) _
        unfold stV at AD
        clear hV hgb hVs
        gi_wp2_with (refine ⟨trivial, ?_⟩; gi_at_call 189; refine (callsIn_wide.2 AD.out).mono ?_; rintro e w2 ⟨rfl, V', hV', mv⟩)
        have mvw : Moves O (W.setCell ⟨Bx, 0, none⟩ (.int .i64 2)) (OB w1.heap.size V') w2 := mv.wider (fun k _ c => (HB.out k).2 (.inl c)) (fun k hk c => (HB.out k).2 (.inl (mv.own k hk c)))
        refine ⟨OB w1.heap.size V', mv0.trans mvw, V', ?_, rfl⟩
        rw [gath_snoc]; exact hV'
    case done =>
      rintro D O' W hD hnD hgr mv hK
      have WE := hide (whole_end (l := (stL l).map flip) (by simpa using hst) hHT.out hbW hs1 (by omega) hgr mv hnD hK)
      rw [HN1.out, HN2.out] at WE
      simp only [if_true] at WE
      clear hgr mv hK
      gi_wp2_with (refine ⟨trivial, ?_⟩; gi_at_call 190; refine (callsIn_wide.2 WE.out).mono ?_; rintro e w2 ⟨v, rfl, hK2, ho, hbf⟩)
      refine ⟨by simp, .inl ⟨_, _, rfl, run_takeDeferred hK2, ?_⟩⟩
      refine ⟨.tuple #[v, .bool true], ?_, v, rfl, ho, hbf⟩
      simp [results, Tryd.f156, go_sem]
    case stop => exact fun _ _ _ _ _ _ _ _ h => h.elim
end Go.Proofs.YtkjioadmebkaoaaDoor
