/- The program's AddMark. -/
import Derived.Test.YtknodkdlphngmawDoorCutW1
import Derived.Test.YtknodkdlphngmawDoorHeapQ
namespace Go.Proofs.YtknodkdlphngmawDoor
open Go.RowKit
open Doc1

/-- What is told of marks that may be too many. -/
def RsB (ok : Bool) (L : List Mk) : Bool := ok && decide (L.length ≤ 40)
def RsT (ok : Bool) (L : List Mk) : List Mk := if ok = true ∧ L.length ≤ 40 then L else []
def RsPost (ok : Bool) (L : List Mk) (w : World) (e : Ending) (w' : World) : Prop := ∃ v, e = .returned (.tuple #[v, .bool (RsB ok L)]) ∧ MrOwn w' w.heap.size v (RsT ok L) ∧ Below w.heap.size w w'
theorem rs_no {ok : Bool} {L : List Mk} {w w' : World} (h : ok = false) (hb : Below w.heap.size w w') : RsPost ok L w (.returned (.tuple #[.slice none 0 0, .bool false])) w' := by
  refine ⟨.slice none 0 0, by unfold RsB; rw [h]; rfl, ?_, hb⟩
  unfold RsT; rw [if_neg (by rw [h]; simp)]; exact World.ownsRow_nil _ _ _ _
theorem rs_yes {ok : Bool} {L : List Mk} {w wm w' : World} {e : Ending} (h : ok = true) (hb : Below w.heap.size w w') (hw : w.heap.size ≤ wm.heap.size) (hp : MkPost wm L e w') : RsPost ok L w e w' := by
  unfold MkPost at hp
  by_cases c : 40 < L.length
  · rw [if_pos c] at hp
    refine ⟨.slice none 0 0, by rw [hp]; unfold RsB; rw [h, decide_eq_false (by omega)]; rfl, ?_, hb⟩
    unfold RsT; rw [if_neg (by omega)]; exact World.ownsRow_nil _ _ _ _
  · rw [if_neg c] at hp
    obtain ⟨v, he, ho⟩ := hp
    refine ⟨v, by rw [he]; unfold RsB; rw [h, decide_eq_true (by omega)]; rfl, ?_, hb⟩
    unfold RsT; rw [if_pos ⟨h, by omega⟩]; exact own_mono ho hw
/-- A heap of so many ends, from its making on. -/
def PI (E : List En) (h : Nat) (W wr : World) : Prop := ∃ v l', Hv h v l' wr ∧ Hp dE ahE l' ∧ Same E l' ∧ Moves (OV h (.slice none 0 0)) W (OV h v) wr
theorem PI.below {E : List En} {h : Nat} {W wr : World} (c : PI E h W wr) {m : Nat} (hm : m ≤ h) (hW : h < W.heap.size) : Below m W wr := by
  obtain ⟨v, l', _, _, _, mv⟩ := c
  exact mv.below (by omega) (fun k hk c => by rcases c with c | c; omega; cases c)
theorem PI.up {E : List En} {h : Nat} {W wr wr2 : World} (c : PI E h W wr) (hb : Below wr.heap.size wr wr2) : PI E h W wr2 := by
  obtain ⟨v, l', hv, hp, hs, mv⟩ := c
  exact ⟨v, l', hv.up hb, hp, hs, mv.trans (mv_up hb)⟩
theorem pi_new (w : World) (t : TypeId) : PI [] w.heap.size (w.alloc (.cells #[.slice none 0 0] t)) (w.alloc (.cells #[.slice none 0 0] t)) := by
  refine ⟨.slice none 0 0, [], ⟨?_, ?_, World.ownsRow_nil _ _ _ _, by intro c; cases c⟩, fun k _ hk => by simp at hk, Same.refl _, Moves.refl _ _⟩
  · unfold World.cell?; rw [heap_alloc_new]; rfl
  · exact World.frozen?_alloc_new _ _ _ _
theorem pi_push {E : List En} {h : Nat} {W wr : World} (P : PI E h W wr) (m : Mk) (hl : E.length ≤ 90000) :
    Calls Tryd.prog 39 #[.pointer (some ⟨h, 0, none⟩), .agg #[.int .i64 m.frm, .int .i64 m.to, .string m.style]] wr fun e w' => e = .returned (.tuple #[]) ∧ PI (E ++ endsOf m) h W w' := by
  obtain ⟨v, l', hv, hp, hs, mv⟩ := P
  have P0 := pushMark_any hv hp m (by rw [hs.len]; exact hl)
  unfold mrV at P0
  refine P0.mono ?_
  rintro e w' ⟨rfl, v3, l3, hv3, hp3, hs3, hm3⟩
  refine ⟨rfl, v3, l3, hv3, hp3, Same.trans ⟨?_, fun x => ?_⟩ hs3, mv.trans hm3⟩
  · rw [List.length_append, List.length_append, hs.len]
  · rw [List.count_append, List.count_append, hs.cnt x]
theorem pi_marks {E : List En} {h : Nat} {W wr : World} (P : PI E h W wr) {E' : List En} {L : List Mk} (hE : E'.Perm E) (hr : Rp L E') (hpw : L.Pairwise (fun a b => mkLt a b = true)) (hlen : E.length ≤ 90000) (hst : ∀ m ∈ L, m.style.size ≤ 1048576) {B : Nat} (hB : B ≤ h) (hW : h < W.heap.size) :
    Calls Tryd.prog 40 #[.pointer (some ⟨h, 0, none⟩)] wr fun e w' => MkPost wr L e w' ∧ Below B wr w' := by
  obtain ⟨v, l', hv, hp, hs, mv⟩ := P
  have hsS : Same l' E' := ⟨hE.length_eq.trans hs.len.symm, fun x => (hE.count_eq x).trans (hs.cnt x).symm⟩
  have hwr := mv.size
  rcases nil_row hv with ⟨rfl, rfl⟩ | ⟨g', cap', rfl, hl⟩
  · have e0 : E' = [] := List.length_eq_zero_iff.1 (by rw [hsS.len]; rfl)
    have e1 : L = [] := by rw [← hr.mkF, e0]; rfl
    subst e1
    exact (marks_nil hv).mono fun e w' ⟨a, b⟩ => ⟨a, by rw [b]; exact Below.refl _ _⟩
  · have hgg : B ≤ g' := by
      rcases Nat.lt_or_ge g' B with c | c
      · rcases mv.own g' (by omega) (.inr rfl) with d | d
        · omega
        · cases d
      · exact c
    have hop : ∀ e ∈ l', (e.op = 1 ∨ e.op = -1) ∧ e.st.size ≤ 1048576 := fun e he => by
      have h1 : e ∈ E' := by
        have := hsS.cnt e
        rw [← List.count_pos_iff] at he ⊢
        omega
      obtain ⟨m, hm, hi⟩ := hr.inn e h1
      refine ⟨hi.2.2.2, ?_⟩
      rw [hi.1]; exact hst m hm
    refine (marks_any hl hp (by rw [hs.len]; exact hlen) hop E' (hr.srt hpw) hsS).mono fun e w' ⟨a, b⟩ => ⟨?_, b.below (by omega) (fun k hk c => by omega)⟩
    rw [← hr.mkF]; exact a
theorem ends_len (l : List Mk) : (l.flatMap endsOf).length ≤ 2 * l.length := by
  induction l with
  | nil => simp
  | cons m l ih =>
    have e : (endsOf m).length ≤ 2 := by unfold endsOf; split <;> simp
    rw [List.flatMap_cons, List.length_append, List.length_cons]; omega

end Go.Proofs.YtknodkdlphngmawDoor
