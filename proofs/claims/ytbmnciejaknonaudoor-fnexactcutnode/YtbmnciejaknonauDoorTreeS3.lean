/- The contracts of the model's own FlatOf, KidsOf, SizeOf, and of impl.KidsOf. -/
import Derived.Test.YtbmnciejaknonauDoorLyW13
namespace Go.Proofs.YtbmnciejaknonauDoor
open Go.RowKit
open Doc1

theorem flat_any {w : World} {g cap : Nat} {l : List Nd} (h : Nin w g cap l) (hgood : goodT l = true) {k : Nat} (hk : k < l.length) :
    Calls Tryd.prog 34 #[.slice (some ⟨g, 0, none⟩) l.length cap, .int .i64 (k : Int)] w fun e w' => e = .returned (.string (ba (fl l k))) ∧ Below w.heap.size w w' := by
  have hsh : shapeL l = true := by unfold goodT at hgood; simp only [Bool.and_eq_true] at hgood; exact hgood.1
  obtain ⟨hup, -, -⟩ := shape_up hsh
  have hs := h.sum
  have hz := h.sz
  refine l2Flat_any l g cap (by omega) h.cap (fun k hk => ?_) (l.length - k) k (by omega) hk w h.at' h.lt
  have h1 := fl_le l hup k hk
  have h2 := sF_le (ownL l) k (l.length - k)
  rw [show k + (l.length - k) = l.length by omega] at h2
  omega
theorem good_pos {l : List Nd} (h : goodT l = true) : 0 < l.length := by
  unfold goodT at h
  simp only [Bool.and_eq_true] at h
  have := (shape_up h.1).2.1
  omega
theorem good_fl {l : List Nd} (h : goodT l = true) : (fl l 0).length ≤ 300 := by
  unfold goodT doc good at h
  simp only [Bool.and_eq_true, decide_eq_true_eq] at h
  exact h.2.1.1.2

theorem in_eq (k : Int) (n : Nat) (x : Int) : decide (x ≤ k ∧ k ≤ (n : Int) - 1) = decide (x ≤ k ∧ k < (n : Int)) := by
  apply decide_eq_decide.2; omega

/-- What KidsOf answers. -/
def kidsA (l : List Nd) (k : Int) : List Nat := if goodT l = true ∧ 0 ≤ k ∧ k < l.length then kids l k.toNat else []
def KidsPost (l : List Nd) (k : Int) (w : World) (e : Ending) (w' : World) : Prop := ∃ v, e = .returned (.tuple #[v, .bool (inK l k)]) ∧ w'.ownsRow w.heap.size 3 1 v (kidsA l k).length (ints (natI (kidsA l k))) ∧ Below w.heap.size w w'

end Go.Proofs.YtbmnciejaknonauDoor
