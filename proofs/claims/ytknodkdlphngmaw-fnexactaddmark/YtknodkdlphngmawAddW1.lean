/- The program's AddMark. -/
import Derived.Test.YtknodkdlphngmawCutW1
import Derived.Test.YtknodkdlphngmawHeapA
namespace Go.Proofs.Ytknodkdlphngmaw
open Go.RowKit
open Doc1

/-- What is told of marks that may be too many. -/
def RsB (ok : Bool) (L : List Mk) : Bool := ok && decide (L.length ≤ 40)
def RsT (ok : Bool) (L : List Mk) : List Mk := if ok = true ∧ L.length ≤ 40 then L else []
def RsPost (ok : Bool) (L : List Mk) (w : World) (e : Ending) (w' : World) : Prop := ∃ v, e = .returned (.tuple #[v, .bool (RsB ok L)]) ∧ MrOwn w' w.heap.size v (RsT ok L) ∧ Below w.heap.size w w'
theorem rs_no {ok : Bool} {L : List Mk} {w w' : World} (h : ok = false) (hb : Below w.heap.size w w') : RsPost ok L w (.returned (.tuple #[.slice none 0 0, .bool false])) w' := by
  refine ⟨.slice none 0 0, by unfold RsB; rw [h]; rfl, ?_, hb⟩
  unfold RsT; rw [if_neg (by rw [h]; simp)]; exact World.ownsRow_nil _ _ _ _
theorem rs_yes {ok : Bool} {L : List Mk} {w wm w' : World} {e : Ending} (h : ok = true) (hb : Below w.heap.size w w') (hw : w.heap.size ≤ wm.heap.size) (hp : MkPost wm L e w') : RsPost ok L w e w' := by
  unfold MkPost at hp
  by_cases c : 40 < L.length
  · rw [if_pos c] at hp
    refine ⟨.slice none 0 0, by rw [hp]; unfold RsB; rw [h, decide_eq_false (by omega)]; rfl, ?_, hb⟩
    unfold RsT; rw [if_neg (by omega)]; exact World.ownsRow_nil _ _ _ _
  · rw [if_neg c] at hp
    obtain ⟨v, he, ho⟩ := hp
    refine ⟨v, by rw [he]; unfold RsB; rw [h, decide_eq_true (by omega)]; rfl, ?_, hb⟩
    unfold RsT; rw [if_pos ⟨h, by omega⟩]; exact own_mono ho hw
/-- A heap of so many ends, from its making on. -/
def PI (E : List En) (h : Nat) (W wr : World) : Prop := ∃ v l', Hv h v l' wr ∧ Hp dE ahE l' ∧ Same E l' ∧ Moves (OV h (.slice none 0 0)) W (OV h v) wr
theorem PI.below {E : List En} {h : Nat} {W wr : World} (c : PI E h W wr) {m : Nat} (hm : m ≤ h) (hW : h < W.heap.size) : Below m W wr := by
  obtain ⟨v, l', _, _, _, mv⟩ := c
  exact mv.below (by omega) (fun k hk c => by rcases c with c | c; omega; cases c)
theorem PI.up {E : List En} {h : Nat} {W wr wr2 : World} (c : PI E h W wr) (hb : Below wr.heap.size wr wr2) : PI E h W wr2 := by
  obtain ⟨v, l', hv, hp, hs, mv⟩ := c
  exact ⟨v, l', hv.up hb, hp, hs, mv.trans (mv_up hb)⟩
theorem pi_new (w : World) (t : TypeId) : PI [] w.heap.size (w.alloc (.cells #[.slice none 0 0] t)) (w.alloc (.cells #[.slice none 0 0] t)) := by
  refine ⟨.slice none 0 0, [], ⟨?_, ?_, World.ownsRow_nil _ _ _ _, by intro c; cases c⟩, fun k _ hk => by simp at hk, Same.refl _, Moves.refl _ _⟩
  · unfold World.cell?; rw [heap_alloc_new]; rfl
  · exact World.frozen?_alloc_new _ _ _ _
theorem pi_push {E : List En} {h : Nat} {W wr : World} (P : PI E h W wr) (m : Mk) (hl : E.length ≤ 90000) :
    Calls Try.prog 28 #[.pointer (some ⟨h, 0, none⟩), .agg #[.int .i64 m.frm, .int .i64 m.to, .string m.style]] wr fun e w' => e = .returned (.tuple #[]) ∧ PI (E ++ endsOf m) h W w' := by
  obtain ⟨v, l', hv, hp, hs, mv⟩ := P
  have P0 := pushMark_any hv hp m (by rw [hs.len]; exact hl)
  unfold mrV at P0
  refine P0.mono ?_
  rintro e w' ⟨rfl, v3, l3, hv3, hp3, hs3, hm3⟩
  refine ⟨rfl, v3, l3, hv3, hp3, Same.trans ⟨?_, fun x => ?_⟩ hs3, mv.trans hm3⟩
  · rw [List.length_append, List.length_append, hs.len]
  · rw [List.count_append, List.count_append, hs.cnt x]
theorem pi_marks {E : List En} {h : Nat} {W wr : World} (P : PI E h W wr) {E' : List En} {L : List Mk} (hE : E'.Perm E) (hr : Rp L E') (hpw : L.Pairwise (fun a b => mkLt a b = true)) (hlen : E.length ≤ 90000) (hst : ∀ m ∈ L, m.style.size ≤ 1048576) {B : Nat} (hB : B ≤ h) (hW : h < W.heap.size) :
    Calls Try.prog 29 #[.pointer (some ⟨h, 0, none⟩)] wr fun e w' => MkPost wr L e w' ∧ Below B wr w' := by
  obtain ⟨v, l', hv, hp, hs, mv⟩ := P
  have hsS : Same l' E' := ⟨hE.length_eq.trans hs.len.symm, fun x => (hE.count_eq x).trans (hs.cnt x).symm⟩
  have hwr := mv.size
  rcases nil_row hv with ⟨rfl, rfl⟩ | ⟨g', cap', rfl, hl⟩
  · have e0 : E' = [] := List.length_eq_zero_iff.1 (by rw [hsS.len]; rfl)
    have e1 : L = [] := by rw [← hr.mkF, e0]; rfl
    subst e1
    exact (marks_nil hv).mono fun e w' ⟨a, b⟩ => ⟨a, by rw [b]; exact Below.refl _ _⟩
  · have hgg : B ≤ g' := by
      rcases Nat.lt_or_ge g' B with c | c
      · rcases mv.own g' (by omega) (.inr rfl) with d | d
        · omega
        · cases d
      · exact c
    have hop : ∀ e ∈ l', (e.op = 1 ∨ e.op = -1) ∧ e.st.size ≤ 1048576 := fun e he => by
      have h1 : e ∈ E' := by
        have := hsS.cnt e
        rw [← List.count_pos_iff] at he ⊢
        omega
      obtain ⟨m, hm, hi⟩ := hr.inn e h1
      refine ⟨hi.2.2.2, ?_⟩
      rw [hi.1]; exact hst m hm
    refine (marks_any hl hp (by rw [hs.len]; exact hlen) hop E' (hr.srt hpw) hsS).mono fun e w' ⟨a, b⟩ => ⟨?_, b.below (by omega) (fun k hk c => by omega)⟩
    rw [← hr.mkF]; exact a
theorem ends_len (l : List Mk) : (l.flatMap endsOf).length ≤ 2 * l.length := by
  induction l with
  | nil => simp
  | cons m l ih =>
    have e : (endsOf m).length ≤ 2 := by unfold endsOf; split <;> simp
    rw [List.flatMap_cons, List.length_append, List.length_cons]; omega

set_option maxRecDepth 100000 in
set_option maxHeartbeats 8000000 in
theorem addI {w : World} {g cap : Nat} {l : List Mk} (size : Int) (m : Mk) (hst : m.style.size ≤ 1048576) (h : MrIn w g cap l)
    (hG : ∀ w1, MrIn w1 g cap l → Calls Try.prog 9 #[.slice (some ⟨g, 0, none⟩) l.length cap, .int .i64 size] w1 fun e w' => e = .returned (.bool (goodM l size)) ∧ Below w1.heap.size w1 w') :
    Calls Try.prog 14 #[.slice (some ⟨g, 0, none⟩) l.length cap, .int .i64 size, .agg #[.int .i64 m.frm, .int .i64 m.to, .string m.style]] w (RsPost (goodM l size && mkOk size m) (addL l m) w) := by
  have hcp := h.cap
  have hln := h.len
  obtain ⟨y0, y1, y2⟩ := cellsE_new w (.int .i64 m.frm) (.int .i64 m.to) (.string m.style)
  have z0 := y0 34
  have z1 := y1 34
  have z2 := y2 34
  have hb0 : Below w.heap.size w (w.alloc (.cells #[.int .i64 m.frm, .int .i64 m.to, .string m.style] 34)) := (Below.refl _ _).alloc (Nat.le_refl _) _
  have hs0 : (w.alloc (.cells #[.int .i64 m.frm, .int .i64 m.to, .string m.style] 34)).heap.size = w.heap.size + 1 := by simp
  have G := hide (hG _ (h.later hb0))
  have I := fun w => isGood_any m size w hst
  unfold mrV at I
  replace I := hide I
  have H := hide h
  have HB0 := hide hb0
  clear h hG y0 y1 y2 hb0
  cases hg : goodM l size with
  | false =>
    rw [hg] at G
    have HN : Hid (∀ w', Below w.heap.size w w' → RsPost (false && mkOk size m) (addL l m) w (.returned (.tuple #[.slice none 0 0, .bool false])) w') := hide (fun w' hb => rs_no rfl hb)
    clear hg
    go_enter Try.func14, Try.ntmps14
    go_wp2_with (go_at_call 9; refine G.out.mono ?_; rintro e w1 ⟨rfl, hb1⟩)
    go_ret2
    exact HN.out _ (HB0.out.trans (hb1.mono (by omega)))
  | true =>
    rw [hg] at G
    cases hm : mkOk size m with
    | false =>
      rw [hm] at I
      have HN : Hid (∀ w', Below w.heap.size w w' → RsPost (true && false) (addL l m) w (.returned (.tuple #[.slice none 0 0, .bool false])) w') := hide (fun w' hb => rs_no rfl hb)
      clear hg hm
      go_enter Try.func14, Try.ntmps14
      go_wp2_with (first | (go_at_call 9; refine G.out.mono ?_; rintro e w1 ⟨rfl, hb1⟩; have x1 := hb1.block w.heap.size (by omega); have b0 := (World.cell?_of_block (a := ⟨w.heap.size, 0, none⟩) x1).trans z0; have b1 := (World.cell?_of_block (a := ⟨w.heap.size, 1, none⟩) x1).trans z1; have b2 := (World.cell?_of_block (a := ⟨w.heap.size, 2, none⟩) x1).trans z2; clear x1 z0 z1 z2) | (go_at_call 24; refine (I.out _).mono ?_; rintro e w2 ⟨rfl, hb2⟩))
      go_ret2
      have hs1 := hb1.size
      exact HN.out _ (HB0.out.trans ((hb1.trans (hb2.mono hs1)).mono (by omega)))
    | true =>
      rw [hm] at I
      have HG := hide hg
      have HM := hide hm
      obtain ⟨hz, h40⟩ := goodM_nums hg
      clear hg hm
      go_enter Try.func14, Try.ntmps14
      go_wp2_with (first | (go_at_call 9; refine G.out.mono ?_; rintro e w1 ⟨rfl, hb1⟩; have x1 := hb1.block w.heap.size (by omega); have b0 := (World.cell?_of_block (a := ⟨w.heap.size, 0, none⟩) x1).trans z0; have b1 := (World.cell?_of_block (a := ⟨w.heap.size, 1, none⟩) x1).trans z1; have b2 := (World.cell?_of_block (a := ⟨w.heap.size, 2, none⟩) x1).trans z2; clear x1 z0 z1 z2; have hs1 := hb1.size) | (go_at_call 24; refine (I.out _).mono ?_; rintro e w2 ⟨rfl, hb2⟩; have hs2 := hb2.size; have x2 := (Below.heap_alloc w2 (.cells #[.slice none 0 0] 52) w.heap.size (by omega)).trans (hb2.block w.heap.size (by omega)); have d0 := (World.cell?_of_block (a := ⟨w.heap.size, 0, none⟩) x2).trans b0; have d1 := (World.cell?_of_block (a := ⟨w.heap.size, 1, none⟩) x2).trans b1; have d2 := (World.cell?_of_block (a := ⟨w.heap.size, 2, none⟩) x2).trans b2; clear x2 b0 b1 b2; have P := hide (pi_push (pi_new w2 52) m (by simp))) | (go_at_call 28; refine P.out.mono ?_; rintro e w3 ⟨rfl, hp3⟩; have HP := hide hp3; clear hp3 d0 d1 d2))
      have hbW : Below w.heap.size w (w2.alloc (.cells #[.slice none 0 0] 52)) := (HB0.out.trans ((hb1.trans (hb2.mono hs1)).mono (by omega))).alloc (by omega) _
      obtain ⟨W, hW⟩ : ∃ W, W = w2.alloc (.cells #[.slice none 0 0] 52) := ⟨_, rfl⟩
      have hWs : w2.heap.size < W.heap.size := by rw [hW]; simp
      rw [← hW] at HP hbW
      rw [List.nil_append] at HP
      have HB := hide hbW
      have hw2 : w.heap.size ≤ w2.heap.size := by omega
      clear hW hb1 hb2 hbW P hs1 hs2 hs0
      go_loopw [25] (fun i wr => ∃ k : Nat, k ≤ l.length ∧ i = .int .i64 k ∧ Hid (PI (endsOf m ++ (l.take k).flatMap endsOf) w2.heap.size W wr)) (fun i _ => l.length - (intOf i).toNat)
      case atStart => exact ⟨0, by omega, rfl, by simpa using HP⟩
      case round =>
        obtain ⟨k, hk, rfl, HC⟩ := hrel
        have HBr := hide (HB.out.trans (HC.out.below hw2 hWs))
        have e2 : (endsOf m).length ≤ 2 := by unfold endsOf; split <;> simp
        by_cases hlt : k < l.length
        · obtain ⟨c0, c1, c2⟩ := (H.out.later HBr.out).at'.mrat k hlt
          have hE := ends_len (l.take k)
          rw [List.length_take] at hE
          have hnx : Hid ((endsOf m ++ (l.take k).flatMap endsOf) ++ endsOf l[k] = endsOf m ++ (l.take (k + 1)).flatMap endsOf) := hide (by
            rw [List.take_succ_eq_append_getElem hlt, List.flatMap_append, List.flatMap_singleton, List.append_assoc])
          obtain ⟨x, hxx⟩ : ∃ x, x = l[k] := ⟨_, rfl⟩
          rw [← hxx] at c0 c1 c2 hnx
          obtain ⟨y0, y1, y2⟩ := cellsE_new wr (.int .i64 x.frm) (.int .i64 x.to) (.string x.style)
          have z0 := y0 34
          have z1 := y1 34
          have z2 := y2 34
          have hb2 : Below wr.heap.size wr (wr.alloc (.cells #[.int .i64 x.frm, .int .i64 x.to, .string x.style] 34)) := (Below.refl _ _).alloc (Nat.le_refl _) _
          have P := hide (pi_push (HC.out.up hb2) x (by rw [List.length_append]; omega))
          rw [hnx.out] at P
          clear hb2 y0 y1 y2 hxx HC hnx e2 hE
          go_wp2_with fail
          refine P.out.mono ?_
          rintro e w4 ⟨rfl, hp4⟩
          have HP4 := hide hp4
          clear hp4
          go_wp2
          exact ⟨⟨k + 1, by omega, by go_num, HP4⟩, by simp [intOf]; omega⟩
        · obtain rfl : k = l.length := by omega
          rw [List.take_length] at HC
          obtain ⟨hpw, hok⟩ := good_pw HG.out
          have hlts : ∀ x ∈ l, x.frm < x.to := fun x hx => (mkOk_lt (hok x hx)).1
          obtain ⟨E', hr, hE⟩ := rp_add (rp_good hlts) (grp_ends (mkOk_lt HM.out).1)
          have hlen := ends_len l
          have MN := hide (pi_marks HC.out hE hr (addL_pw l m hpw hlts) (by rw [List.length_append]; omega) (addL_styles (fun s => s.size ≤ 1048576) l m hst (fun x hx => by have := (mkOk_lt (hok x hx)).2.1; omega)) hw2 hWs)
          have hwr := HBr.out.size
          clear hpw hok hlts hr hE HC hlen e2
          go_wp2_with (go_at_call 29; refine MN.out.mono ?_; rintro e w5 ⟨hpo, hm5⟩; obtain ⟨v5, b5, he5⟩ := mk_form hpo; subst he5; have HPO := hide hpo; have HM5 := hide hm5; clear hpo hm5)
          go_ret2
          exact rs_yes (by rfl) (HBr.out.trans HM5.out) hwr HPO.out
end Go.Proofs.Ytknodkdlphngmaw
