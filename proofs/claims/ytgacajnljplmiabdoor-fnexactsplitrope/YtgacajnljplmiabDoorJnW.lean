/- The answer's cell, wherever it was made among the calls. -/
import Derived.Test.YtgacajnljplmiabDoorRpH
import Derived.Deep.Onto
set_option linter.unusedVariables false
namespace Go.Proofs.YtgacajnljplmiabDoor
open Go.RowKit
open Doc1

/-- What stands behind a call whose rope is laid into a cell. -/
def JnQ (T : TypeId) (w0 w1 : World) (c n : Nat) (a : Option Addr) (cc : Nat) (R : List Bg) : Prop :=
  CellT T w1 c (.slice a n cc) ∧ w0.heap.size ≤ c ∧ BoOwn w1 w0.heap.size (.slice a n cc) R ∧ (∀ y, (Value.slice a n cc).ownBlock = some y → y ≠ c) ∧ Below w0.heap.size w0 w1

theorem jn_new (T : TypeId) {w0 wc : World} {b n cc : Nat} {a : Option Addr} {R : List Bg} (h : Below w0.heap.size w0 wc) (hb : w0.heap.size ≤ b) (O : BoOwn wc b (.slice a n cc) R) :
    JnQ T w0 (wc.alloc (.cells #[.slice a n cc] T)) wc.heap.size n a cc R :=
  ⟨CellT.new _ _ _, h.size, own_below (World.ownsRow.mono O hb) ((Below.refl _ _).alloc (Nat.le_refl _) _), fun y hy e => by have := World.ownsRow.lt O y hy; omega, h.alloc h.size _⟩

theorem jn_set (T : TypeId) {w0 wc : World} {b c n cc : Nat} {a : Option Addr} {R : List Bg} {x : Value} (h : Below w0.heap.size w0 wc) (hb : w0.heap.size ≤ c ∧ c < b) (O : BoOwn wc b (.slice a n cc) R) (Y : CellT T wc c x) :
    JnQ T w0 (wc.setCell ⟨c, 0, none⟩ (.slice a n cc)) c n a cc R :=
  ⟨cell_put Y 0 _, hb.1, World.ownsRow.mono (own_aside O hb.2 0 _) (by omega), fun y hy e => by have := World.ownsRow.lt O y hy; omega, h.setCell hb.1 _⟩
end Go.Proofs.YtgacajnljplmiabDoor
