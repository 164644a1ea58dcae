/- The program's limbs: how long they are, how they are joined. -/
import Derived.Test.YtpdngncioblibacDoorRop1
import Derived.Test.YtpdngncioblibacDoorRowsBough
import Derived.Deep.Cut
import Derived.Deep.CutRange
set_option linter.unusedVariables false
namespace Go.Proofs.YtpdngncioblibacDoor
open Go.RowKit
open Doc1

/-- A tree as a limb. -/
def lv : Lm → Value
  | .pc s => .iface 48 (.string s)
  | .jn a b => .iface 65 (.agg #[lv a, lv b, .int .i64 ((a.sz + b.sz : Nat) : Int)])
def lvO : Option Lm → Value
  | none => .nilIface
  | some t => lv t
theorem size_pc (s : ByteArray) (w : World) : (method 192 48 (.string s) "loop.example/g00253/impl.size").run Tryd.prog w = .ok (55, .string s) w := by kernel_rfl
theorem size_jn (x y z : Value) (w : World) : (method 192 65 (.agg #[x, y, z]) "loop.example/g00253/impl.size").run Tryd.prog w = .ok (58, .agg #[x, y, z]) w := by kernel_rfl

set_option maxHeartbeats 400000 in
theorem pieceSize (s : ByteArray) (w : World) :
    Calls Tryd.prog 55 #[.string s] w fun e w' => e = .returned (.int .i64 (s.size : Int)) ∧ Below w.heap.size w w' := by
  go_enter Tryd.func55, Tryd.ntmps55
  go_wp2
  go_ret
  exact ⟨rfl, Below.refl _ _⟩

set_option maxHeartbeats 400000 in
theorem jointSize (x y : Value) (n : Int) (w : World) :
    Calls Tryd.prog 58 #[.agg #[x, y, .int .i64 n]] w fun e w' => e = .returned (.int .i64 n) ∧ Below w.heap.size w w' := by
  go_enter Tryd.func58, Tryd.ntmps58
  go_wp2
  go_ret
  exact ⟨rfl, (Below.refl _ _).alloc (Nat.le_refl _) _⟩

theorem ent_pc (a : Array Value) (w : World) : (callFunc 55 a).run Tryd.prog w = .ok (.enter 55 a) w := by kernel_rfl
theorem ent_jn (a : Array Value) (w : World) : (callFunc 58 a).run Tryd.prog w = .ok (.enter 58 a) w := by kernel_rfl
/-- A limb's own type, and its function for its length. -/
theorem lv_size (t : Lm) : ∃ T v K, lv t = .iface T v ∧ (∀ a w, (callFunc K a).run Tryd.prog w = .ok (.enter K a) w) ∧ (∀ w, (method 192 T v "loop.example/g00253/impl.size").run Tryd.prog w = .ok (K, v) w) ∧ ∀ w, Calls Tryd.prog K #[v] w fun e w' => e = .returned (.int .i64 (t.sz : Int)) ∧ Below w.heap.size w w' := by
  cases t with
  | pc s => exact ⟨_, _, _, rfl, ent_pc, size_pc s, pieceSize s⟩
  | jn a b => exact ⟨_, _, _, rfl, ent_jn, size_jn _ _ _, fun w => jointSize _ _ _ w⟩

end Go.Proofs.YtpdngncioblibacDoor
