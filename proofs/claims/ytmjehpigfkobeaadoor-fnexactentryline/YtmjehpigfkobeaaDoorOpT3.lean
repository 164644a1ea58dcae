/- The program's OpText. -/
import Derived.Test.YtmjehpigfkobeaaDoorOpT2
import Derived.Test.YtmjehpigfkobeaaDoorBldx
import Derived.Test.YtmjehpigfkobeaaDoorOpW4
import Derived.Test.YtmjehpigfkobeaaDoorOpW36
import Derived.Test.YtmjehpigfkobeaaDoorBoxes
set_option linter.unusedVariables false
namespace Go.Proofs.YtmjehpigfkobeaaDoor
open Go.RowKit Go.Shelf
open Doc1

attribute [local go_sem] Oper.semAt_some

theorem own_mv {w w2 : World} {B n sz : Nat} {e : TypeId} {v : Value} {xs : List Value} (h : w.ownsRow B e sz v n xs) (hk : ∀ x, v.ownBlock = some x → w2.heap[x]? = w.heap[x]?) : w2.ownsRow B e sz v n xs := by
  refine ⟨h.1, ?_⟩
  rcases h.2 with hn | ⟨g', cap, cur, hv, hb', hh, rest⟩
  · exact .inl hn
  · exact .inr ⟨g', cap, cur, hv, hb', (hk g' (by rw [hv]; rfl)).trans hh, rest⟩
theorem own_hi {w : World} {B B' n sz : Nat} {e : TypeId} {v : Value} {xs : List Value} (h : w.ownsRow B e sz v n xs) (hb : ∀ y, v.ownBlock = some y → B' ≤ y) : w.ownsRow B' e sz v n xs :=
  ⟨h.1, h.2.imp id (fun ⟨g, cap, cur, e1, _, e3⟩ => ⟨g, cap, cur, e1, hb g (by rw [e1]; rfl), e3⟩)⟩
theorem own_in {w : World} {B n sz : Nat} {e : TypeId} {v : Value} {xs : List Value} (h : w.ownsRow B e sz v n xs) {k : Nat} (hk : v.ownBlock = some k) : k < w.heap.size := by
  rcases h.2 with ⟨hv, _⟩ | ⟨g', cap, cur, hv, _, hh, _⟩
  · rw [hv] at hk; cases hk
  · rw [hv] at hk
    have : g' = k := by injection hk
    subst this
    exact (Array.getElem?_eq_some_iff.1 hh).1
/-- The block of the powers of ten. -/
abbrev gP : Nat := 2
theorem gPn : Tryd.prog.globalNamed "internal/strconv.uint64pow10" = some gP := by kernel_rfl
theorem gP_ne : (1 : Nat) ≠ gP := by decide
theorem TabP.block {w w1 : World} (h : TabP w) (hb : w1.heap[gP]? = w.heap[gP]?) : TabP w1 := by
  unfold TabP Lib.TabIs World.var? at h ⊢
  rw [gPn] at h ⊢
  simp only [Option.bind_some] at h ⊢
  rw [hb]
  exact h
theorem TabP.lt {w : World} (h : TabP w) : gP < w.heap.size := by
  rcases Nat.lt_or_ge gP w.heap.size with c | c
  · exact c
  · unfold TabP Lib.TabIs World.var? at h
    rw [gPn] at h
    simp only [Option.bind_some] at h
    rw [Array.getElem?_eq_none c] at h; cases h
/-- Parts that came in lie beside the powers of ten. -/
theorem pin_beside {w : World} {aw : Option Addr} {g cap : Nat} {l : List Pt} (h : Pin w aw g cap l) (hT : TabN w) : ∃ g', Pin w aw g' cap l ∧ g' ≠ gP := by
  by_cases hl : l = []
  · subst hl
    exact ⟨1, ⟨h.cap, h.sz, h.len, fun j u hu => by simp [encP] at hu, hT.1.lt, fun c => absurd rfl c⟩, gP_ne⟩
  · refine ⟨g, h, fun e => ?_⟩
    have h0 : 0 < l.length := List.length_pos_iff.2 hl
    have c0 := (h.at'.ptat 0 h0).1
    have c1 := hT.2.cell gPn 0 (by decide)
    rw [e] at c0
    rw [Nat.zero_mul] at c0
    rw [c0] at c1
    simp at c1
/-- What lies between two rounds: the texts of the parts, behind one another, in a builder; and the powers of ten. -/
def TJ (b : Nat) (X : Option Obj) (pre : List Pt) (O : Nat → Prop) (W : World) : Prop :=
  ∃ v p, (p = .pointer none ∨ p = BdSelf b) ∧ Bdx 0 b v p (byt (opT pre)) W ∧ v.ownBlock ≠ some gP ∧ W.heap[gP]? = X ∧ gP < W.heap.size ∧ O = fun k => k = b ∨ v.ownBlock = some k ∨ k = gP
theorem tJ_held (b : Nat) (X : Option Obj) : Held (TJ b X) := by
  refine ⟨?_, ?_⟩
  · rintro pre O W ⟨v, p, hp, h, hn, hX, hl, rfl⟩ k (rfl | hk | rfl)
    · exact h.lt
    · exact own_in h.row hk
    · exact hl
  · rintro pre O W W' ⟨v, p, hp, h, hn, hX, hl, rfl⟩ hs hk
    exact ⟨v, p, hp, ⟨h.lo, (hk b (.inl rfl)).trans h.hp, own_mv h.row (fun x hx => hk x (.inr (.inl hx))), h.no⟩, hn, (hk gP (.inr (.inr rfl))).trans hX, by omega, rfl⟩
theorem stay_moves {b : Nat} {v v' : Value} {W W' : World} (hg : gP < W.heap.size) (hb : Below 0 W W') (hs : Stay b v W W') (hl : v'.ownBlock = v.ownBlock ∨ ∀ x, v'.ownBlock = some x → W.heap.size ≤ x) :
    Moves (fun k => k = b ∨ v.ownBlock = some k ∨ k = gP) W (fun k => k = b ∨ v'.ownBlock = some k ∨ k = gP) W' :=
  ⟨hb.os, hb.tape, hb.output, hs.1, fun k hk hn => hs.2 k hk (fun c => hn (.inl c)) (fun c => hn (.inr (.inl c))), fun k hk c => by
    rcases c with c | c | c
    · exact .inl c
    · rcases hl with e | e
      · exact .inr (.inl (e ▸ c))
      · have := e k c; omega
    · exact .inr (.inr c)⟩
/-- Within a round: besides, the box of the part. -/
def PAx (J : List Pt → (Nat → Prop) → World → Prop) (act : Pt → Nat → Act) (pre : List Pt) (x : Pt) (a' : Act) (B : Nat → Prop) (W : World) : Prop :=
  ∃ O Bx, J pre O W ∧ (∀ k, B k ↔ O k ∨ k = Bx) ∧ ¬ O Bx ∧ (∃ t, W.heap[Bx]? = some (.cells #[.int .i64 x.keep, .string x.put, .string x.drop] t (0, 0))) ∧ a' = act x Bx
theorem pAx_hd {J : List Pt → (Nat → Prop) → World → Prop} (hJ : Held J) (act : Pt → Nat → Act) (pre : List Pt) (x : Pt) (a' : Act) : Held (fun (_ : Unit) => PAx J act pre x a') :=
  ⟨fun ⟨O, Bx, h, hB, _, ⟨t, hx⟩, _⟩ k hk => by
      rcases (hB k).1 hk with c | rfl
      · exact hJ.lt h k c
      · exact (Array.getElem?_eq_some_iff.1 hx).1,
    fun ⟨O, Bx, h, hB, hn, ⟨t, hx⟩, ha⟩ hs hk => ⟨O, Bx, hJ.kept h hs (fun k c => hk k ((hB k).2 (.inl c))), hB, hn, ⟨t, (hk Bx ((hB Bx).2 (.inr rfl))).trans hx⟩, ha⟩⟩
theorem pbox_cells {W : World} {Bx : Nat} {x : Pt} (h : ∃ t, W.heap[Bx]? = some (.cells #[.int .i64 x.keep, .string x.put, .string x.drop] t (0, 0))) : W.cell? ⟨Bx, 0, none⟩ = some (.int .i64 x.keep) ∧ W.cell? ⟨Bx, 1, none⟩ = some (.string x.put) ∧ W.cell? ⟨Bx, 2, none⟩ = some (.string x.drop) := by
  obtain ⟨t, h⟩ := h
  exact ⟨by rw [cell_of_row _ _ 0 _ _ (0, 0) h]; rfl, by rw [cell_of_row _ _ 1 _ _ (0, 0) h]; rfl, by rw [cell_of_row _ _ 2 _ _ (0, 0) h]; rfl⟩
theorem byt_app (a b : List UInt8) : byt (a ++ b) = byt a ++ byt b := by unfold byt; rw [List.map_append]
/-- A new builder. -/
theorem bdx_new (w : World) : Bdx 0 w.heap.size (.slice none 0 0) (.pointer none) (byt (opT [])) (w.alloc (.cells #[.pointer none, .slice none 0 0] 55)) :=
  ⟨Nat.zero_le _, heap_alloc_new w _, World.ownsRow_nil _ _ _ _, fun c => by cases c⟩
theorem Bdx.up {B b : Nat} {v p : Value} {l : List Value} {w w1 : World} (h : Bdx B b v p l w) (hb : Below w.heap.size w w1) : Bdx B b v p l w1 :=
  ⟨h.lo, (hb.block b h.lt).trans h.hp, own_mv h.row (fun x hx => hb.block x (own_in h.row hx)), h.no⟩
/-- The builder and the box of the list, whatever their types. -/
theorem bld_boxes {Φ : World → Prop} {W : World} {v : Value} {u : TypeId}
    (h : ∀ W2 : World, Below W.heap.size W W2 → W2.heap.size = W.heap.size + 2 → Bdx 0 W.heap.size (.slice none 0 0) (.pointer none) (byt (opT [])) W2 → W2.cell? ⟨W.heap.size + 1, 0, none⟩ = some v → Φ W2) :
    Φ ((W.alloc (.cells #[.pointer none, .slice none 0 0] 55)).alloc (.cells #[v] u)) := by
  refine h _ (((Below.refl _ _).alloc (Nat.le_refl _) _).alloc (by simp) _) (by simp) ((bdx_new W).up ((Below.refl _ _).alloc (Nat.le_refl _) _)) ?_
  rw [show W.heap.size + 1 = (W.alloc (.cells #[.pointer none, .slice none 0 0] 55)).heap.size by simp]
  unfold World.cell?
  rw [heap_alloc_new]; rfl

set_option maxRecDepth 100000 in
set_option maxHeartbeats 8000000 in
theorem opTextI_good {w : World} {aw : Option Addr} {g cap : Nat} {l : List Pt} (h : Pin w aw g cap l) (hT : TabN w) (hg : goodO l = true) :
    Calls Tryd.prog 8 #[.slice aw l.length cap] w fun e w' => e = .returned (.tuple #[.string (opB l), .bool true]) ∧ Below w.heap.size w w' := by
  have PO := hide (fun w' => partsOf_any (.slice aw l.length cap) w' _ _ _ rfl)
  have GO := goodOpI h hT.1
  rw [hg] at GO
  replace GO := hide GO
  have HPK := hide (goodO_pk hg)
  have h60 := (goodO_le hg).1
  have H := hide h
  have HT := hide hT
  clear h hT hg
  have hdep : Fence.wide.depth = none := rfl
  have hmix : Tryd.prog.follows .mixedOrders = true := by kernel_rfl
  refine (callsIn_wide (n := 6)).1 ?_
  refine callsIn_of_wp_marks Tryd.func8 rfl trivial ?_ rfl
  simp only [Tryd.ntmps8, List.size_toArray, List.length_cons, List.length_nil, Nat.reduceAdd, Nat.reduceSub, Array.replicate_succ, Array.replicate_zero, List.push_toArray, List.append_toArray, List.nil_append, List.cons_append]
  gi_wp2_with (first | (refine ⟨trivial, ?_⟩; gi_at_call 29; refine (callsIn_wide.2 GO.out).mono ?_; rintro e w' ⟨rfl, hb⟩; have HB := hide hb; clear hb) | (refine ⟨trivial, ?_⟩; gi_at_call 30; refine (callsIn_wide.2 (PO.out _)).mono ?_; rintro e w' ⟨rfl, hw⟩; replace hw := hw.symm; subst hw))
  have hsw := HB.out.size
  have pin1 := H.out.later HB.out
  have tab1 := HT.out.below HB.out
  have ltT := tab1.1.lt
  obtain ⟨g, pin1, hgn⟩ := pin_beside pin1 tab1
  have ltg := pin1.lt
  have HP1 := hide pin1
  have HT1 := hide tab1
  clear pin1 tab1
  refine bld_boxes (Φ := fun W2 => Code.wpIn _ _ _ _ _ _ W2) ?_
  intro W2 hB2 hs2 bb bq
  have hJ := tJ_held w'.heap.size w'.heap[gP]?
  have pin2 := HP1.out.later hB2
  have tab2 := HT1.out.below hB2
  have ltP := HT1.out.2.lt
  have hX2 := hB2.block gP ltP
  refine wpIn_range rfl (enters_of Tryd.func57 (by kernel_rfl) rfl) (parts_iter pin2 tab2.1 bq) (fun _ => rfl)
    (J := TJ w'.heap.size w'.heap[gP]?) (Jx := fun _ _ _ _ => False) (O := fun k => k = w'.heap.size ∨ (Value.slice none 0 0).ownBlock = some k ∨ k = gP) hJ (fun _ => no_held) (Nat.le_refl _)
    (by
      rintro k (rfl | rfl | rfl)
      · refine ⟨by omega, rfl, ?_⟩
        rintro (c | c | c)
        · omega
        · cases c
        · omega
      · refine ⟨by omega, rfl, ?_⟩
        rintro (c | c | c)
        · omega
        · cases c
        · exact hgn c
      · refine ⟨by omega, rfl, ?_⟩
        rintro (c | c | c)
        · omega
        · cases c
        · exact gP_ne c)
    ⟨.slice none 0 0, _, .inl rfl, bb, (fun c => by cases c), hX2, by omega, rfl⟩
    (pAx_hd hJ (fun x Bx => { tmps := #[.slice aw l.length cap, undef, .string ⟨#[]⟩, .bool false, .pointer (some ⟨w'.heap.size, 0, none⟩), .int .i64 (pk x : Int), .pointer (some ⟨Bx, 0, none⟩), .slice aw l.length cap, .bool true, .bool false, .slice aw l.length cap, .func (.func 57) #[] #[.pointer (some ⟨w'.heap.size + 1, 0, none⟩)], .int .i64 (pk x : Int), .agg #[.int .i64 x.keep, .string x.put, .string x.drop], undef, undef, undef, undef, undef, undef], defers := [] }))
    ?assigned ?round ?done ?stop
  case assigned =>
    rintro l1 pre x O W K hj hx hK
    simp only [ptE, ptV]
    gi_wp2
    exact hK _ _ _ ((Moves.refl _ _).alloc _) ⟨O, W.heap.size, hJ.up hj ((Below.refl _ _).alloc (Nat.le_refl _) _), fun _ => Iff.rfl, fun c => absurd (hJ.lt hj _ c) (by omega), ⟨_, heap_alloc_new W _⟩, rfl⟩
  case round =>
    rintro l1 pre x a' O W ⟨O1, Bx, ⟨v, p, hp, hbx, hvP, hX, hPl, rfl⟩, hB, hnB, hbox, rfl⟩ hl1 hnl hx
    have hxm : x ∈ l := hx.subset (by simp)
    have hpx := HPK.out x hxm
    have hpl : pre.length < l.length := by have := hx.length_le; simp at this; omega
    have hpp : ∀ q ∈ pre, pk q ≠ 0 := fun q hq => HPK.out q (hx.subset (by simp [hq]))
    have htl := opT_len pre hpp
    have hprl := prt_len hpx
    obtain ⟨z0, z1, z2⟩ := pbox_cells hbox
    have PT := hide (partText_any x W hpx (HT1.out.2.block hX))
    have bwl : (byt (opT pre)).length ≤ 20000 := by rw [byt_len]; omega
    have hprs : (prB x).size ≤ 302 := by unfold prB; rw [lB_size]; exact hprl
    have HBX := hide hbx
    have MV : Hid (∀ O' W', Moves (fun k => k = w'.heap.size ∨ v.ownBlock = some k ∨ k = gP) W O' W' → Moves O W O' W') := hide (fun O' W' m => m.wider (fun k _ c => (hB k).2 (.inl c)) (fun k hk c => (hB k).2 (.inl (m.own k hk c))))
    have hbn : w'.heap.size ≠ gP := by omega
    have HOP := hide (opT_snoc pre x)
    clear hbx hB hnB hbox hxm hpp hx
    gi_wp2_with (first
      | (refine ⟨trivial, ?_⟩; gi_at_call 32; unfold ptV at PT; refine (callsIn_wide.2 PT.out).mono ?_; rintro e w2 ⟨rfl, hb2⟩; have HB2 := hide hb2; have PS := hide (bld_puts (prB x) (HBX.out.up hb2) hp (by omega) (Nat.zero_le _)); clear hb2)
      | (refine ⟨trivial, ?_⟩; gi_at_call 31; refine (callsIn_wide.2 PS.out).mono ?_; rintro e w3 ⟨rfl, v3, hx3, hb3, hs3, hl3⟩; have PB := hide (bld_putx 59 hx3 (Or.inr rfl) (by rw [List.length_append, byt_len, byt_len]; have q1 := bwl; have q2 := hprs; rw [byt_len] at q1; rw [szB] at q2; omega) (Nat.zero_le _)); have M3 := hide (And.intro hx3 (And.intro hb3 (And.intro hs3 hl3))); clear hx3 hb3 hs3 hl3)
      | (refine ⟨trivial, ?_⟩; gi_at_call 33; refine (callsIn_wide.2 PB.out).mono ?_; rintro e w4 ⟨rfl, v4, hx4, hb4, hs4, hl4⟩; have M4 := hide (And.intro hx4 (And.intro hb4 (And.intro hs4 hl4))); clear hx4 hb4 hs4 hl4))
    obtain ⟨hx3, hb3, hs3, hl3⟩ := M3.out
    obtain ⟨hx4, hb4, hs4, hl4⟩ := M4.out
    have q2 := HB2.out.size
    have hP2 : gP < w2.heap.size := by omega
    have hP3 : gP < w3.heap.size := Nat.lt_of_lt_of_le hP2 hs3.1
    have n3 : v3.ownBlock ≠ some gP := fun c => by
      rcases hl3 with e | e
      · exact hvP (e ▸ c)
      · have := e _ c; omega
    have n4 : v4.ownBlock ≠ some gP := fun c => by
      rcases hl4 with e | e
      · exact n3 (e ▸ c)
      · have := e _ c; omega
    have hX4 : w4.heap[gP]? = w'.heap[gP]? := (hs4.2 gP hP3 (Ne.symm hbn) n3).trans ((hs3.2 gP hP2 (Ne.symm hbn) hvP).trans ((HB2.out.block gP hPl).trans hX))
    have m := ((moves_up HB2.out).trans (stay_moves hP2 hb3 hs3 hl3)).trans (stay_moves hP3 hb4 hs4 hl4)
    refine ⟨_, MV.out _ _ m, v4, _, .inr rfl, ?_, n4, hX4, Nat.lt_of_lt_of_le hP3 hs4.1, rfl⟩
    rw [HOP.out, byt_app, byt_app, ← List.append_assoc]
    exact hx4
  case done =>
    rintro D O' W hD hnD ⟨v, p, hp, hbx, hvP, hX, hPl, rfl⟩ mv hK
    have hb3 : Below w'.heap.size w' W := hB2.trans ⟨mv.os, mv.tape, mv.output, mv.size, fun k hk => by
      by_cases c : k = gP
      · rw [c, hX, hX2]
      · exact mv.same k (by omega) (fun d => by
          rcases d with d | d | d
          · omega
          · cases d
          · exact c d)⟩
    have hDb : D ≠ w'.heap.size := fun c => hnD (.inl c)
    have hvb : ∀ y, v.ownBlock = some y → w'.heap.size ≤ y := fun y hy => by
      by_cases c : y < W2.heap.size
      · rcases mv.own y c (.inr (.inl hy)) with d | d | d
        · omega
        · cases d
        · rw [d] at hy; exact absurd hy hvP
      · omega
    have hbx2 : Bd w'.heap.size w'.heap.size p (byt (opT l)) W := ⟨Nat.le_refl _, v, hbx.hp, own_hi hbx.row hvb, hbx.no⟩
    have P := hide (Tryd.Builder_String_any_k w'.heap.size w'.heap.size (opT l) W (by
      rcases hp with rfl | rfl
      · exact .inl (Lib.BuilderAtF.of hbx2)
      · exact .inr (Lib.BuilderAtF.of hbx2)) hb3.size)
    have HB3 := hide hb3
    clear hbx hbx2 hvb hvP hX hPl mv hnD hp hb3
    gi_wp2_with (refine ⟨trivial, ?_⟩; gi_at_call 34; refine (callsIn_wide.2 P.out).mono ?_; rintro e w5 ⟨rfl, -, hb5, hk5⟩; have hK5 := hk5 D _ hK (fun c => hDb (by injection c)) (fun _ _ c => by cases c); have HB5 := hide hb5; clear hb5 hk5)
    have hEnd : Below w.heap.size w (w5.putObj D (.deferred none)) := (HB.out.trans ((HB3.out.trans HB5.out).mono hsw)).trans ⟨rfl, rfl, rfl, by simp, fun k hk => World.putObj_heap_other (by omega)⟩
    refine ⟨by simp, .inl ⟨_, _, rfl, run_takeDeferred hK5, ?_⟩⟩
    refine ⟨.tuple #[.string (opB l), .bool true], ?_, rfl, hEnd⟩
    simp [results, Tryd.f8, go_sem]
    rfl
  case stop => exact fun _ _ _ _ _ _ _ _ h => h.elim


set_option maxRecDepth 100000 in
set_option maxHeartbeats 2000000 in
theorem opTextI {w : World} {aw : Option Addr} {g cap : Nat} {l : List Pt} (h : Pin w aw g cap l) (hT : TabN w) :
    Calls Tryd.prog 8 #[.slice aw l.length cap] w fun e w' => e = .returned (.tuple #[.string (opR l), .bool (goodO l)]) ∧ Below w.heap.size w w' := by
  unfold opR
  cases hg : goodO l with
  | true => exact opTextI_good h hT hg
  | false =>
    have G := goodOpI h hT.1
    rw [hg] at G
    replace G := hide G
    clear h hg hT
    go_enter Tryd.func8, Tryd.ntmps8
    go_wp2_with fail
    refine G.out.mono ?_
    rintro e w' ⟨rfl, hb⟩
    go_wp2
    go_ret2
    exact ⟨rfl, hb⟩

end Go.Proofs.YtmjehpigfkobeaaDoor
