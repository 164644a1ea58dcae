/- Ids are arrays: when two are the same. -/
import Derived.Test.YtnhooalibadeeabDoorSqIn
import Derived.ChangeKeysEq
set_option linter.unusedVariables false
namespace Go.Proofs.YtnhooalibadeeabDoor
open Go.RowKit
open Doc1

set_option maxRecDepth 100000 in
set_option maxHeartbeats 400000 in
theorem eq_id (a b c d : Int) (w : World) : (Op.equalIn 10000 52 (.agg #[.int .i64 a, .int .i64 b]) (.agg #[.int .i64 c, .int .i64 d])).run Tryd.prog w = .ok (a == c && b == d) w := by
  obtain ⟨i, hi⟩ := info_of_underlying Tryd.underlying3
  have hc : Tryd.prog.cellsOf 3 = 1 := by kernel_rfl
  have hp : Tryd.prog.plainKey 3 = true := by kernel_rfl
  have p0 : ∀ (x y : Int), (part 3 #[Value.int .i64 x, .int .i64 y] 0).run Tryd.prog w = .ok (.int .i64 x) w := fun x y => run_part_plain w hp rfl
  have p1 : ∀ (x y : Int), (part 3 #[Value.int .i64 x, .int .i64 y] 1).run Tryd.prog w = .ok (.int .i64 y) w := fun x y => run_part_plain w hp rfl
  have e0 : ∀ (x y : Int), (Op.equalIn 9999 3 (.int .i64 x) (.int .i64 y)).run Tryd.prog w = .ok (x == y) w := fun x y => run_equalIn_int w 9998 3 .i64 .i64 x y Tryd.underlying3
  refine (run_equalIn_array w 9999 _ _ Tryd.underlying52 hi).trans ?_
  rw [hc, show List.range 2 = [0, 1] from rfl]
  simp only [Op.eqItems, Nat.zero_mul, Nat.one_mul, Sem.run_bind, p0, e0, Result.andThen_ok]
  by_cases h1 : a = c
  · by_cases h2 : b = d
    · subst h1 h2; simp [p1, e0]
    · simp [h1, h2, p1, e0]
  · simp [h1]
end Go.Proofs.YtnhooalibadeeabDoor
