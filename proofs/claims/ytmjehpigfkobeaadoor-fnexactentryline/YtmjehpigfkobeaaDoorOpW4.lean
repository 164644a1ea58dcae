/- The iterator partsOf, by footprints. -/
import Derived.Test.YtmjehpigfkobeaaDoorOpWA
import Derived.Test.YtmjehpigfkobeaaDoorRange
namespace Go.Proofs.YtmjehpigfkobeaaDoor
open Go.RowKit Go.Shelf
open Doc1

attribute [local go_sem] Oper.semAt_some

theorem CLs.block {w w1 : World} {g : Nat} {cs : List Value} (h : CLs w g cs) (hb : w1.heap[g]? = w.heap[g]?) : CLs w1 g cs := fun j u hu => (World.cell?_of_block hb).trans (h j u hu)
theorem Tab.block {w w1 : World} (h : Tab w) (hb : w1.heap[(1 : Nat)]? = w.heap[(1 : Nat)]?) : Tab w1 := fun j hj => (World.cell?_of_block hb).trans (h j hj)
theorem Pin.block {w w1 : World} {aw : Option Addr} {g cap : Nat} {l : List Pt} (h : Pin w aw g cap l) (hb : w1.heap[g]? = w.heap[g]?) (hs : w.heap.size ≤ w1.heap.size) : Pin w1 aw g cap l := ⟨h.cap, h.sz, h.len, h.at'.block hb, Nat.lt_of_lt_of_le h.lt hs, h.ad⟩
/-- What lies in no owned block lies as it lay. -/
theorem moves_up {O : Nat → Prop} {W X : World} (h : Below W.heap.size W X) : Moves O W O X := moves_below h (fun k h1 h2 => absurd h1 (by omega)) (fun _ _ h => h)
theorem Held.up {σ : Type} {J : σ → (Nat → Prop) → World → Prop} (h : Held J) {s : σ} {O : Nat → Prop} {W X : World} (j : J s O W) (hb : Below W.heap.size W X) : J s O X := h.kept j hb.size (fun k hk => hb.block k (h.lt j k hk))
/-- What a round hands back, as one way. -/
theorem yield_m {m : Nat} {P : Program} {l : Nat} {fn : FuncId} {tmps : Array Value} {assign body : Code} {W : World} {O : Nat → Prop} {A B : (Nat → Prop) → World → Prop}
    (h : RoundIn Fence.wide m P l fn tmps assign body W fun e W' => ∃ O', Moves O W O' W' ∧ ((e = .returned (.bool true) ∧ A O' W') ∨ (e = .returned (.bool false) ∧ B O' W'))) :
    RoundIn Fence.wide m P l fn tmps assign body W fun e W' => ∃ b : Bool, e = .returned (.bool b) ∧ ∃ O', Moves O W O' W' ∧ (b = true → A O' W') ∧ (b = false → B O' W') :=
  h.mono (fun e W' hh => by
    obtain ⟨O', mv, hh⟩ := hh
    rcases hh with ⟨rfl, ha⟩ | ⟨rfl, hb⟩
    · exact ⟨true, rfl, O', mv, fun _ => ha, fun c => by cases c⟩
    · exact ⟨false, rfl, O', mv, (fun c => by cases c), fun _ => hb⟩)

set_option maxRecDepth 100000 in
set_option maxHeartbeats 2000000 in
theorem parts_iter {w : World} {aw : Option Addr} {g cap Bs : Nat} {l : List Pt} (hp : Pin w aw g cap l) (hT : Tab w) (hBs : w.cell? ⟨Bs, 0, none⟩ = some (.slice aw l.length cap)) :
    Iter Tryd.prog 57 #[.pointer (some ⟨Bs, 0, none⟩)] ptE l (fun k => k = Bs ∨ k = g ∨ k = 1) w := by
  intro n li J Jx O W hJ hJx hsz0 need hY h0
  obtain ⟨eBs, nBs⟩ := need Bs (.inl rfl)
  obtain ⟨eg, ng⟩ := need g (.inr (.inl rfl))
  obtain ⟨eT, nT⟩ := need 1 (.inr (.inr rfl))
  have hpW := hp.block eg hsz0
  have hTW := hT.block eT
  have hBW := (World.cell?_of_block (a := ⟨Bs, 0, none⟩) eBs).trans hBs
  have ltT := hTW.lt
  have ltg := hpW.lt
  have hln := hpW.len
  have hcp := hpW.cap
  have hc := hpW.at'
  have hsz := hpW.sz
  have hadr := hide (fun (k : Nat) (hk : k < l.length) => hpW.adr hk)
  clear eBs eg eT hp hT hBs hpW need
  have hmix : Tryd.prog.follows .mixedOrders = true := by kernel_rfl
  have hdep : Fence.wide.depth = none := rfl
  refine callsIn_of_wp Tryd.func57 rfl trivial ?_ rfl
  simp only [Tryd.ntmps57, List.size_toArray, List.length_cons, List.length_nil, Nat.reduceAdd, Nat.reduceSub, Array.replicate_succ, Array.replicate_zero, List.push_toArray, List.append_toArray, List.nil_append, List.cons_append]
  gi_wp2
  gi_loopw [7] (fun i wr => ∃ k : Nat, k ≤ l.length ∧ i = .int .i64 k ∧ ∃ O', J (l.take k) O' wr ∧ Moves O W O' wr) (fun i _ => l.length - (intOf i).toNat)
  case atStart => exact ⟨0, Nat.zero_le _, rfl, O, h0, Moves.refl _ _⟩
  case round =>
    obtain ⟨k, hk, rfl, O', hJs, hnx⟩ := hrel
    have hTr : Tab wr := hTW.block (hnx.same _ ltT nT)
    by_cases hlt : k < l.length
    · obtain rfl := hadr.out k hlt
      obtain ⟨c0, c1, c2⟩ := (hc.block (hnx.same _ ltg ng)).ptat k hlt
      have hs := hsz k hlt
      have PK := hide (fun w' (hb : Below wr.heap.size wr w') => partKind_any l[k] w' hs.1 hs.2 (hTr.below hb))
      have hpre : l.take k ++ [l[k]] <+: l := by rw [← List.take_succ_eq_append_getElem hlt]; exact List.take_prefix _ _
      have YY := hide (fun w' (hb : Below wr.heap.size wr w') => hY (l.take k) l[k] O' w' (hJ.up hJs hb) hpre)
      gi_wp2
      gi_region_with_o (first
        | (refine ⟨trivial, ?_⟩; gi_at_call 58; refine (callsIn_wide.2 (PK.out _ (((Below.refl _ _).alloc (Nat.le_refl _) _).drew))).mono ?_; rintro e w2 ⟨rfl, hb2⟩; have hB2 : Below wr.heap.size wr w2 := (((Below.refl _ _).alloc (Nat.le_refl _) _).drew).trans (hb2.mono (by show wr.heap.size ≤ (wr.alloc _).heap.size; simp)); obtain ⟨d0, d1, d2⟩ := cells3_kept hb2; obtain ⟨fn, tmps, assign, body, hy, hR⟩ := YY.out w2 hB2; have hR2 := yield_m hR; unfold ptE ptV at hy)
        | (refine hR2.mono ?_; rintro e w3 ⟨b, rfl, O3, mv3, h3⟩))
      all_goals
        have mvW : Moves O W O3 w3 := hnx.trans ((moves_up hB2).trans mv3)
        cases b with
        | true =>
          have hJ3 := h3.1 rfl
          rw [← List.take_succ_eq_append_getElem hlt] at hJ3
          clear c0 c1 c2 d0 d1 d2 hy hR hR2 h3 mv3
          gi_wp2
          go_roundw
          case rel => exact ⟨k + 1, by omega, by simp, O3, hJ3, mvW⟩
          case measure => simp [intOf]; omega
        | false =>
          have hJ3 := h3.2 rfl
          clear c0 c1 c2 d0 d1 d2 hy hR hR2 h3 mv3
          gi_wp2
          refine bodyPost_ret (results_none rfl _ _ _) rfl ?_
          exact ⟨⟨_, rfl⟩, O3, mvW, .inr ⟨_, hpre, hJ3⟩⟩
    · obtain rfl : k = l.length := by omega
      rw [List.take_length] at hJs
      gi_wp2
      go_end0
      exact ⟨⟨_, rfl⟩, O', hnx, .inl hJs⟩
end Go.Proofs.YtmjehpigfkobeaaDoor
