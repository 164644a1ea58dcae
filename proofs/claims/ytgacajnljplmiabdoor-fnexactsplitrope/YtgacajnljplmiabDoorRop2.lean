/- The program's limbs: how long they are, how they are joined. -/
import Derived.Test.YtgacajnljplmiabDoorRop1
import Derived.Test.YtgacajnljplmiabDoorRowsBough
import Derived.Deep.Cut
import Derived.Deep.CutRange
set_option linter.unusedVariables false
namespace Go.Proofs.YtgacajnljplmiabDoor
open Go.RowKit
open Doc1

/-- A tree as a limb. -/
def lv : Lm → Value
  | .pc s => .iface 146 (.string s)
  | .jn a b => .iface 166 (.agg #[lv a, lv b, .int .i64 ((a.sz + b.sz : Nat) : Int)])
def lvO : Option Lm → Value
  | none => .nilIface
  | some t => lv t
theorem size_pc (s : ByteArray) (w : World) : (method 317 146 (.string s) "loop.example/g00253/impl.size").run Tryd.prog w = .ok (161, .string s) w := by kernel_rfl
theorem size_jn (x y z : Value) (w : World) : (method 317 166 (.agg #[x, y, z]) "loop.example/g00253/impl.size").run Tryd.prog w = .ok (164, .agg #[x, y, z]) w := by kernel_rfl

set_option maxHeartbeats 400000 in
theorem pieceSize (s : ByteArray) (w : World) :
    Calls Tryd.prog 161 #[.string s] w fun e w' => e = .returned (.int .i64 (s.size : Int)) ∧ Below w.heap.size w w' := by
  go_enter Tryd.func161, Tryd.ntmps161
  go_wp2
  go_ret
  exact ⟨rfl, Below.refl _ _⟩

set_option maxHeartbeats 400000 in
theorem jointSize (x y : Value) (n : Int) (w : World) :
    Calls Tryd.prog 164 #[.agg #[x, y, .int .i64 n]] w fun e w' => e = .returned (.int .i64 n) ∧ Below w.heap.size w w' := by
  go_enter Tryd.func164, Tryd.ntmps164
  go_wp2
  go_ret
  exact ⟨rfl, (Below.refl _ _).alloc (Nat.le_refl _) _⟩

theorem ent_pc (a : Array Value) (w : World) : (callFunc 161 a).run Tryd.prog w = .ok (.enter 161 a) w := by kernel_rfl
theorem ent_jn (a : Array Value) (w : World) : (callFunc 164 a).run Tryd.prog w = .ok (.enter 164 a) w := by kernel_rfl
/-- A limb's own type, and its function for its length. -/
theorem lv_size (t : Lm) : ∃ T v K, lv t = .iface T v ∧ (∀ a w, (callFunc K a).run Tryd.prog w = .ok (.enter K a) w) ∧ (∀ w, (method 317 T v "loop.example/g00253/impl.size").run Tryd.prog w = .ok (K, v) w) ∧ ∀ w, Calls Tryd.prog K #[v] w fun e w' => e = .returned (.int .i64 (t.sz : Int)) ∧ Below w.heap.size w w' := by
  cases t with
  | pc s => exact ⟨_, _, _, rfl, ent_pc, size_pc s, pieceSize s⟩
  | jn a b => exact ⟨_, _, _, rfl, ent_jn, size_jn _ _ _, fun w => jointSize _ _ _ w⟩

set_option maxRecDepth 100000 in
set_option maxHeartbeats 800000 in
theorem lengthOf_any (o : Option Lm) (w : World) :
    Calls Tryd.prog 71 #[lvO o] w fun e w' => e = .returned (.int .i64 (szO o : Int)) ∧ Below w.heap.size w w' := by
  cases o with
  | none =>
    have hq : ∀ w, (binOp .eql 103 .nilIface .nilIface).run Tryd.prog w = .ok (.bool true) w := fun _ => by rfl
    unfold lvO
    go_enter Tryd.func71, Tryd.ntmps71
    go_wp2
    go_ret
    exact ⟨rfl, Below.refl _ _⟩
  | some t =>
    obtain ⟨T, v, K, e, hk, hm, hc⟩ := lv_size t
    have hq : ∀ w, (binOp .eql 103 (.iface T v) .nilIface).run Tryd.prog w = .ok (.bool false) w := fun _ => by rfl
    show Calls Tryd.prog _ #[lv t] w _
    rw [e]
    have HC := hide hc
    clear hc
    go_enter Tryd.func71, Tryd.ntmps71
    go_wp2_with fail
    refine (HC.out w).mono ?_
    rintro e w' ⟨rfl, hb⟩
    go_wp2
    go_ret
    exact ⟨rfl, hb⟩
end Go.Proofs.YtgacajnljplmiabDoor
