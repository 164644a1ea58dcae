/- The contract of impl.NormalOp. The contract of impl.InvertOp. -/
import Derived.Test.YtfklbhejfbfmeaaDoorGatM
import Derived.Test.YtfklbhejfbfmeaaDoorBoxes
import Derived.Test.YtfklbhejfbfmeaaDoorOpSM
namespace Go.Proofs.YtfklbhejfbfmeaaDoor
open Go.RowKit Go.Shelf
open Doc1

attribute [local go_sem] Oper.semAt_some

/-- What is gathered between two rounds. -/
def JG (gb : Nat) (F : St → St) (pre : List St) (O : Nat → Prop) (W : World) : Prop := GR gb (gath g0 (pre.map F)) O W
theorem jG_held (gb : Nat) (F : St → St) : Held (JG gb F) := ⟨fun h => (gr_held gb).lt h, fun h hs hk => (gr_held gb).kept h hs hk⟩
/-- Within a round: besides, the box of the step. -/
def GAx (gb : Nat) (F : St → St) (act : St → Nat → Act) (pre : List St) (x : St) (a' : Act) (B : Nat → Prop) (W : World) : Prop :=
  ∃ V Bx, Gt gb V (gath g0 (pre.map F)) W ∧ (∀ k, B k ↔ OB gb V k ∨ k = Bx) ∧ ¬ OB gb V Bx ∧ Box2 W Bx (.int .i64 (x.k : Int)) (.int .u8 (x.c.toNat : Int)) ∧ a' = act x Bx
theorem gAx_held (gb : Nat) (F : St → St) (act : St → Nat → Act) (pre : List St) (x : St) (a' : Act) : Held (fun (_ : Unit) => GAx gb F act pre x a') :=
  ⟨fun ⟨V, Bx, h, hB, _, hx, _⟩ k hk => by
      rcases (hB k).1 hk with c | rfl
      · exact h.ltO c
      · exact hx.lt,
    fun ⟨V, Bx, h, hB, hn, hx, ha⟩ _ hk => ⟨V, Bx, h.kept (fun k c => hk k ((hB k).2 (.inl c))), hB, hn, hx.block (hk Bx ((hB Bx).2 (.inr rfl))), ha⟩⟩
theorem gath_snoc (F : St → St) (pre : List St) (x : St) : gath g0 ((pre ++ [x]).map F) = (gath g0 (pre.map F)).add (F x) := by simp [gath]
/-- A new gathering. -/
theorem gt_new (w : World) (t : TypeId) : Gt w.heap.size (fun j => if j = 1 then .int .i64 0 else .slice none 0 0) g0 (w.alloc (.cells #[.slice none 0 0, .int .i64 0, .slice none 0 0, .slice none 0 0] t)) := by
  have hh := heap_alloc_new w (.cells #[.slice none 0 0, .int .i64 0, .slice none 0 0, .slice none 0 0] t)
  have nil : ∀ (w' : World) (e : TypeId) (n : Nat), w'.ownsRow 0 e n (.slice none 0 0) 0 [] := fun w' e n => ⟨by simp, .inl ⟨rfl, rfl⟩⟩
  refine ⟨fun j hj => ?_, fun j => ?_, fun j hj => ?_, fun i j _ _ _ x hx => ?_, fun j _ hx => ?_⟩
  · have : j = 0 ∨ j = 1 ∨ j = 2 ∨ j = 3 := by omega
    rcases this with rfl | rfl | rfl | rfl <;> (unfold World.cell?; rw [hh]; rfl)
  · unfold World.frozen?
    rw [hh]
    simp
  · have : j = 0 ∨ j = 1 ∨ j = 2 ∨ j = 3 := by omega
    rcases this with rfl | rfl | rfl | rfl
    · exact nil _ _ _
    · rfl
    · exact nil _ _ _
    · exact nil _ _ _
  · split at hx <;> cases hx
  · split at hx <;> cases hx
theorem ob_new {g k : Nat} (h : OB g (fun j => if j = 1 then .int .i64 0 else .slice none 0 0) k) : k = g := by
  rcases h with e | ⟨j, _, hx⟩
  · exact e
  · simp only at hx; split at hx <;> cases hx
theorem own_raise {w : World} {B n sz : Nat} {e : TypeId} {v : Value} {xs : List Value} (h : w.ownsRow 0 e sz v n xs) (hB : ∀ x, v.ownBlock = some x → B ≤ x) : w.ownsRow B e sz v n xs := by
  refine ⟨h.1, ?_⟩
  rcases h.2 with hn | ⟨g', cap, cur, hv, _, rest⟩
  · exact .inl hn
  · exact .inr ⟨g', cap, cur, hv, hB g' (by rw [hv]; rfl), rest⟩
/-- The block of the gathering and the box of the list, whatever their types. -/
theorem gath_boxes {Φ : World → Prop} {W : World} {v : Value} {t u : TypeId}
    (h : ∀ W2 : World, Below W.heap.size W W2 → W2.heap.size = W.heap.size + 2 → Gt W.heap.size (fun j => if j = 1 then .int .i64 0 else .slice none 0 0) g0 W2 → W2.cell? ⟨W.heap.size + 1, 0, none⟩ = some v → Φ W2) :
    Φ ((W.alloc (.cells #[.slice none 0 0, .int .i64 0, .slice none 0 0, .slice none 0 0] t)).alloc (.cells #[v] u)) := by
  refine h _ (((Below.refl _ _).alloc (Nat.le_refl _) _).alloc (by simp) _) (by simp) ((gt_new W t).up ((Below.refl _ _).alloc (Nat.le_refl _) _)) ?_
  rw [show W.heap.size + 1 = (W.alloc (.cells #[.slice none 0 0, .int .i64 0, .slice none 0 0, .slice none 0 0] t)).heap.size by simp]
  unfold World.cell?
  rw [heap_alloc_new]; rfl
/-- Behind the loop over the steps: what whole needs, and what it leaves. -/
theorem whole_end {w W2 W : World} {gb D : Nat} {O : Nat → Prop} {l : List St} (hl : l.length ≤ 600) (hT : Tab w) (hb : Below w.heap.size w W2) (hgb : w.heap.size ≤ gb) (hD : w.heap.size ≤ D) (hgr : GR gb (gath g0 l) O W) (mv : Moves (OB gb (fun j => if j = 1 then .int .i64 0 else .slice none 0 0)) W2 O W) (hnD : ¬ O D) (hK : W.heap[D]? = some (.deferred (some []))) :
    Calls Tryd.prog 71 #[.pointer (some ⟨gb, 0, none⟩)] W fun e w' => ∃ v, e = .returned (.tuple #[v, .bool (goodO (gath g0 l).out)]) ∧ w'.heap[D]? = some (.deferred (some [])) ∧
      POwn (w'.putObj D (.deferred none)) w.heap.size v (if goodO (gath g0 l).out then (gath g0 l).out else []) ∧ Below w.heap.size w (w'.putObj D (.deferred none)) := by
  obtain ⟨V, hV, rfl⟩ := hgr
  have hsz := hb.size
  have lt0 := hT.lt
  have no : ∀ k, k < w.heap.size → ¬ OB gb V k := fun k hk c => by
    have := ob_new (mv.own k (by omega) c)
    omega
  have hbW : Below w.heap.size w W := hb.trans (mv.below hsz (fun k hk c => by have := ob_new c; omega))
  have hTW := hT.block (hbW.block _ lt0)
  have hgb0 := gb_gath l g0 0 gb0
  have hgs0 := gs_gath l g0 0 gb0 (fun p hp => by simp [g0] at hp)
  refine (whole_any hV hgb0 hgs0 (by omega) hTW (no _ lt0)).mono ?_
  rintro e w' ⟨v, rfl, ⟨O', mv'⟩, ho, hin⟩
  have ltD := (Array.getElem?_eq_some_iff.1 hK).1
  have hK' := (mv'.same D ltD hnD).trans hK
  have hszW := hbW.size
  have hvb : ∀ x, v.ownBlock = some x → w.heap.size ≤ x ∧ x ≠ D := by
    intro x hx
    by_cases hlt : x < W.heap.size
    · have hO := hin x hx hlt
      exact ⟨Nat.le_of_not_lt (fun c => no x c hO), fun e => hnD (e ▸ hO)⟩
    · exact ⟨by omega, by omega⟩
  have hb' : Below w.heap.size w w' := hbW.trans (mv'.below hszW no)
  refine ⟨v, rfl, hK', own_raise (own_move ho (fun x hx => World.putObj_heap_other (hvb x hx).2)) (fun x hx => (hvb x hx).1), ?_⟩
  exact hb'.trans ⟨rfl, rfl, rfl, by simp, fun k hk => World.putObj_heap_other (by omega)⟩

theorem normG {l : List Pt} (h : goodO l = true) : goodO (gath g0 ((stL l).map id)).out = true ∧ (gath g0 ((stL l).map id)).out = normL l := by
  have hp := goodO_pk h
  obtain ⟨h60, ht, hm⟩ := goodO_le h
  rw [List.map_id, ← norm_gath l hp]
  refine ⟨?_, rfl⟩
  rw [norm_gath l hp, goodO_gath _ (stL_so hp)]
  have hs := stL_sums l hp
  have hl := (norm_bd l hp l.length (Nat.le_refl _)).1
  rw [List.take_length, norm_gath l hp] at hl
  exact decide_eq_true ⟨by omega, by omega, by omega⟩

end Go.Proofs.YtfklbhejfbfmeaaDoor

namespace Go.Proofs.YtfklbhejfbfmeaaDoor
open Go.RowKit Go.Shelf
open Doc1

attribute [local go_sem] Oper.semAt_some

/-- What is put is dropped, and what is dropped is put. -/
def flip (x : St) : St := if x.k = 2 then ⟨3, x.c⟩ else if x.k = 3 then ⟨2, x.c⟩ else x
theorem stp_inv {p : Pt} (h : pk p ≠ 0) : stp (invP p) = (stp p).map flip := by
  have key : p.put.data.toList = [] ∨ p.drop.data.toList = [] := by
    unfold pk at h
    split at h
    · rename_i hh; exact .inl hh.1
    · split at h
      · rename_i hh; exact .inr hh.2.1
      · split at h
        · rename_i hh; exact .inl hh.2.1
        · exact absurd rfl h
  unfold stp invP
  simp only [List.map_append, List.map_replicate, List.map_map]
  rcases key with e | e
  · rw [e]; simp [flip, Function.comp_def]
  · rw [e]; simp [flip, Function.comp_def]
theorem stL_inv : ∀ (l : List Pt), (∀ p ∈ l, pk p ≠ 0) → stL (l.map invP) = (stL l).map flip
  | [], _ => rfl
  | p :: l, h => by
    have e1 : stL ((p :: l).map invP) = stp (invP p) ++ stL (l.map invP) := by simp [stL]
    have e2 : stL (p :: l) = stp p ++ stL l := by simp [stL]
    rw [e1, e2, List.map_append, stp_inv (h p (List.mem_cons_self)), stL_inv l (fun x hx => h x (List.mem_cons_of_mem _ hx))]
theorem sums_inv (l : List Pt) : tkL (l.map invP) = mkL l ∧ mkL (l.map invP) = tkL l := by
  unfold tkL mkL
  simp only [List.map_map]
  exact ⟨rfl, rfl⟩
theorem goodO_inv {l : List Pt} (h : goodO l = true) : goodO (l.map invP) = true := by
  have hp := inv_pk (goodO_pk h)
  obtain ⟨h1, h2, h3⟩ := goodO_le h
  have hs := sums_inv l
  rw [goodO_sums (by simpa using h1) (all_gp hp), hs.1, hs.2]
  exact decide_eq_true ⟨h3, h2⟩
theorem invG {l : List Pt} (h : goodO l = true) : goodO (gath g0 ((stL l).map flip)).out = true ∧ (gath g0 ((stL l).map flip)).out = normL (l.map invP) := by
  have := normG (goodO_inv h)
  rw [List.map_id, stL_inv l (goodO_pk h)] at this
  exact this

end Go.Proofs.YtfklbhejfbfmeaaDoor
