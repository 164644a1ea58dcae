/- The contract of the model's own NormalOp. -/
import Derived.Test.YtbmnciejaknonauDoorOpS7
namespace Go.Proofs.YtbmnciejaknonauDoor
open Go.RowKit
open Doc1

/-- What NormalOp answers. -/
def norO (l : List Pt) : List Pt := if goodO l then normL l else []

set_option maxRecDepth 100000 in
set_option maxHeartbeats 2000000 in
theorem normalS {w : World} {g cap : Nat} {l : List Pt} (h : Pin w g cap l) :
    Calls Tryd.prog 23 #[.slice (some ⟨g, 0, none⟩) l.length cap] w fun e w' => ∃ v, e = .returned (.tuple #[v, .bool (goodO l)]) ∧ POwn w' w.heap.size v (norO l) ∧ Below w.heap.size w w' := by
  have G := goodOpS h
  unfold norO
  cases hg : goodO l with
  | false =>
    rw [hg] at G
    have HG := hide G
    clear h G
    simp only [Bool.false_eq_true, if_false]
    go_enter Tryd.func23, Tryd.ntmps23
    go_wp2_with fail
    refine HG.out.mono ?_
    rintro e w1 ⟨rfl, hb⟩
    go_wp2
    go_ret2
    exact ⟨_, rfl, World.ownsRow_nil _ _ _ _, hb⟩
  | true =>
    rw [hg] at G
    have HG := hide G
    obtain ⟨h60, hpk, -, -⟩ := goodO_parts hg
    have S := hide (fun w1 (hb : Below w.heap.size w w1) => l3Normal_any (h.later hb) h60 hpk)
    clear h G
    simp only [if_true]
    go_enter Tryd.func23, Tryd.ntmps23
    go_wp2_with fail
    refine HG.out.mono ?_
    rintro e w1 ⟨rfl, hb⟩
    go_wp2_with fail
    refine (S.out w1 hb).mono ?_
    rintro e w2 ⟨v, rfl, ho, hb2⟩
    go_wp2
    go_ret2
    exact ⟨_, rfl, ho.mono hb.size, hb.trans (hb2.mono hb.size)⟩
end Go.Proofs.YtbmnciejaknonauDoor
