/- The program's CutMarks. -/
import Derived.Test.YtknodkdlphngmawDoorHeapW9
import Derived.Test.YtknodkdlphngmawDoorMarkWA
namespace Go.Proofs.YtknodkdlphngmawDoor
open Go.RowKit
open Doc1

def cutOk (l : List Mk) (size fr to : Int) (st : ByteArray) : Bool := goodM l size && (decide (0 ≤ fr ∧ fr ≤ to ∧ to ≤ size) && isSt st)
/-- Both answer so. -/
def cutT (l : List Mk) (size fr to : Int) (st : ByteArray) : List Mk := if cutOk l size fr to st = true ∧ (cutL l fr to st).length ≤ 40 then cutL l fr to st else []
def cutB (l : List Mk) (size fr to : Int) (st : ByteArray) : Bool := cutOk l size fr to st && decide ((cutL l fr to st).length ≤ 40)
def CutPost (l : List Mk) (size fr to : Int) (st : ByteArray) (w : World) (e : Ending) (w' : World) : Prop := ∃ v, e = .returned (.tuple #[v, .bool (cutB l size fr to st)]) ∧ MrOwn w' w.heap.size v (cutT l size fr to st) ∧ Below w.heap.size w w'
theorem mk_form {w w' : World} {ms : List Mk} {e : Ending} (h : MkPost w ms e w') : ∃ v b, e = .returned (.tuple #[v, .bool b]) := by
  unfold MkPost at h
  split at h
  · exact ⟨_, _, h⟩
  · obtain ⟨v, h, _⟩ := h; exact ⟨_, _, h⟩
theorem goodM_nums {l : List Mk} {size : Int} (h : goodM l size = true) : size ≤ 300 ∧ l.length ≤ 40 := by
  unfold goodM at h
  simp only [Bool.and_eq_true, decide_eq_true_eq] at h
  exact ⟨h.1.2, h.2.1⟩
theorem cut_no {l : List Mk} {size fr to : Int} {st : ByteArray} {w w' : World} (h : cutOk l size fr to st = false) (hb : Below w.heap.size w w') : CutPost l size fr to st w (.returned (.tuple #[.slice none 0 0, .bool false])) w' := by
  refine ⟨.slice none 0 0, by unfold cutB; rw [h]; rfl, ?_, hb⟩
  unfold cutT; rw [if_neg (by rw [h]; simp)]; exact World.ownsRow_nil _ _ _ _
theorem cut_yes {l : List Mk} {size fr to : Int} {st : ByteArray} {w wm w' : World} {e : Ending} (h : cutOk l size fr to st = true) (hb : Below w.heap.size w w') (hw : w.heap.size ≤ wm.heap.size) (hp : MkPost wm (cutL l fr to st) e w') : CutPost l size fr to st w e w' := by
  unfold MkPost at hp
  by_cases c : 40 < (cutL l fr to st).length
  · rw [if_pos c] at hp
    refine ⟨.slice none 0 0, by rw [hp]; unfold cutB; rw [h, decide_eq_false (by omega)]; rfl, ?_, hb⟩
    unfold cutT; rw [if_neg (by omega)]; exact World.ownsRow_nil _ _ _ _
  · rw [if_neg c] at hp
    obtain ⟨v, he, ho⟩ := hp
    refine ⟨v, by rw [he]; unfold cutB; rw [h, decide_eq_true (by omega)]; rfl, ?_, hb⟩
    unfold cutT; rw [if_pos ⟨h, by omega⟩]; exact own_mono ho hw

set_option maxRecDepth 100000 in
set_option maxHeartbeats 4000000 in
theorem marks_nil {h : Nat} {w : World} (H : Hv h (.slice none 0 0) [] w) : Calls Tryd.prog 40 #[.pointer (some ⟨h, 0, none⟩)] w fun e w' => MkPost w [] e w' ∧ w' = w := by
  have c0 := H.c
  clear H
  go_enter Tryd.func40, Tryd.ntmps40
  go_wp2_with fail
  go_loopw [4, 5] (fun a b wr => a = .slice none 0 0 ∧ b = .int .i64 0 ∧ wr = w) (fun _ _ _ => 0)
  case atStart => exact ⟨rfl, rfl, rfl⟩
  case round =>
    obtain ⟨rfl, rfl, rfl⟩ := hrel
    go_wp2
    go_ret2
    refine ⟨?_, rfl⟩
    unfold MkPost
    exact ⟨_, rfl, World.ownsRow_nil _ _ _ _⟩
theorem nil_row {h : Nat} {v : Value} {l : List En} {w : World} (H : Hv h v l w) : (v = .slice none 0 0 ∧ l = []) ∨ ∃ g cap, v = .slice (some ⟨g, 0, none⟩) l.length cap ∧ Hl h g cap l w := by
  rcases H.own.2 with ⟨hv, hn⟩ | ⟨g', cap', cur, hv, _⟩
  · exact .inl ⟨hv, List.length_eq_zero_iff.1 hn⟩
  · subst hv; exact .inr ⟨g', cap', rfl, H.hl.2⟩
/-- The heap, so many marks pushed. -/
def CI (fr to : Int) (st : ByteArray) (l : List Mk) (h : Nat) (W : World) (k : Nat) (wr : World) : Prop := ∃ v l', Hv h v l' wr ∧ Hp dE ahE l' ∧ Same ((l.take k).flatMap (pu fr to st)) l' ∧ Moves (OV h (.slice none 0 0)) W (OV h v) wr
theorem pu_len (fr to : Int) (st : ByteArray) : ∀ l : List Mk, (l.flatMap (pu fr to st)).length ≤ 4 * l.length
  | [] => by simp
  | m :: l => by
    have := pu_len fr to st l
    have e : ∀ x : Mk, (endsOf x).length ≤ 2 := fun x => by unfold endsOf; split <;> simp
    have e2 : (pu fr to st m).length ≤ 4 := by
      unfold pu; split
      · have := e m; omega
      · have := e ⟨m.frm, min m.to fr, st⟩; have := e ⟨max m.frm to, m.to, st⟩; simp only [List.length_append]; omega
    rw [List.flatMap_cons, List.length_append, List.length_cons]; omega
theorem CI.below {fr to : Int} {st : ByteArray} {l : List Mk} {h : Nat} {W wr : World} {k : Nat} (c : CI fr to st l h W k wr) {m : Nat} (hm : m ≤ h) (hW : h < W.heap.size) : Below m W wr := by
  obtain ⟨v, l', _, _, _, mv⟩ := c
  exact mv.below (by omega) (fun k hk c => by rcases c with c | c; omega; cases c)

end Go.Proofs.YtknodkdlphngmawDoor
