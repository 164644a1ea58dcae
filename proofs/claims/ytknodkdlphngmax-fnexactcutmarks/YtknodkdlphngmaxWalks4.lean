/- The contracts of GoodDoc and DepthAt, of the model's and of the program's; their laws. -/
import Derived.Test.YtknodkdlphngmaxWalks3
namespace Go.Proofs.Ytknodkdlphngmax
open Go.RowKit
open Doc1

theorem hide {p : Prop} (h : p) : Hid p := h
theorem hid_eq {l : List Int} {L : List UInt8} {x y : Int} (h : Hid (l = dps L x)) (e : x = y) : Hid (l = dps L y) := by subst e; exact h
theorem size_len (s : ByteArray) : s.data.toList.length = s.size := by simp
theorem ret_tup {x y : Int} {a b : Bool} (h : x = y) (h2 : a = b) : Ending.returned (.tuple #[.int .i64 x, .bool a]) = .returned (.tuple #[.int .i64 y, .bool b]) := by rw [h, h2]

/-- A row that holds something is no nil slice. -/
theorem own_shape {w : World} {B : Nat} {v : Value} {n : Nat} {L : List Int} (h : w.ownsRow B 3 1 v (n + 1) (L.map (Value.int .i64))) (hL : L.length = n + 1) :
    ∃ g cap, v = .slice (some ⟨g, 0, none⟩) (n + 1) cap ∧ n + 1 ≤ cap ∧ cap ≤ maxLen ∧ ∀ j, j ≤ n → w.cell? ⟨g, j, none⟩ = some (.int .i64 (L.getD j 0)) := by
  have h' := h
  rcases h.2 with ⟨_, h0⟩ | ⟨g, cap, cur, hv, hb, hh, hle, hm, hs, ht⟩
  · omega
  · refine ⟨g, cap, hv, hle, hm, fun j hj => ?_⟩
    subst hv
    rw [h'.cellAt j (by omega)]
    rw [List.getElem?_map, List.getElem?_eq_getElem (by omega), List.getD_eq_getElem?_getD, List.getElem?_eq_getElem (by omega)]
    rfl

set_option maxHeartbeats 400000 in
theorem l1In_any (n lo hi : Int) (w : World) :
    Calls Try.prog 28 #[.int .i64 n, .int .i64 lo, .int .i64 hi] w fun e w' => e = .returned (.bool (decide (lo ≤ n ∧ n ≤ hi))) ∧ w' = w := by
  go_enter Try.func28, Try.ntmps28
  go_wp2
  all_goals (go_ret; refine ⟨ret_bool ?_, rfl⟩; rw [Bool.eq_iff_iff]; simp; omega)

end Go.Proofs.Ytknodkdlphngmax
