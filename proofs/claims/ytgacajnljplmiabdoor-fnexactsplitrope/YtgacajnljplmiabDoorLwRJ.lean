/- Lengths, for the exact laws of chapter 12. The answer's cell, wherever it was made among the calls. -/
import Derived.Test.YtgacajnljplmiabDoorRpt7
import Derived.Test.YtgacajnljplmiabDoorRpH
import Derived.Deep.Onto
set_option linter.unusedVariables false
namespace Go.Proofs.YtgacajnljplmiabDoor
open Go.RowKit
open Doc1

theorem arg_shape {w : World} {v : Value} {l : List Bg} (h : ArgBo w v l) : ∃ a c m, v = .slice a m c := by
  cases h with
  | nil a c => exact ⟨a, c, 0, rfl⟩
  | row b off c p h1 h2 h3 h4 h5 => exact ⟨_, c, _, rfl⟩

theorem szBon_txt (l : List Bg) (i : Nat) (hi : i < l.length) : l[i].text.size ≤ szBon l := by
  have h1 := szBoU_succ l i hi
  have h2 := szBoU_mono l (i + 1) l.length hi
  unfold szBon
  omega

theorem okB_len (o : Option Lm) : (okB o).length ≤ 1000000 := by
  unfold okB
  by_cases h : fit o = true
  · rw [if_pos h]
    unfold fit at h
    simp at h
    cases o with
    | none => simp [bo]
    | some t => simp only [bo, Lm.pd_len]; simp only [nbO] at h; omega
  · rw [if_neg h]; simp

theorem roL_len (s : ByteArray) : (roL s).length ≤ 1000000 := by
  unfold roL
  split
  · exact okB_len _
  · simp

theorem rbL_len (l : List Bg) : (rbL l).length ≤ 1000000 := by
  unfold rbL
  split
  · exact okB_len _
  · simp

theorem jnL_len (l m : List Bg) : (jnL l m).length ≤ 1000000 := by
  unfold jnL
  split
  · exact okB_len _
  · simp

theorem pcR_len (l : List Bg) : (pcO (rtO l)).length ≤ 1000000 := by
  have := pcO_len (rtO l)
  have := rt_ok l
  omega
end Go.Proofs.YtgacajnljplmiabDoor

set_option linter.unusedVariables false
namespace Go.Proofs.YtgacajnljplmiabDoor
open Go.RowKit
open Doc1

/-- What stands behind a call whose rope is laid into a cell. -/
def JnQ (T : TypeId) (w0 w1 : World) (c n : Nat) (a : Option Addr) (cc : Nat) (R : List Bg) : Prop :=
  CellT T w1 c (.slice a n cc) ∧ w0.heap.size ≤ c ∧ BoOwn w1 w0.heap.size (.slice a n cc) R ∧ (∀ y, (Value.slice a n cc).ownBlock = some y → y ≠ c) ∧ Below w0.heap.size w0 w1

theorem jn_new (T : TypeId) {w0 wc : World} {b n cc : Nat} {a : Option Addr} {R : List Bg} (h : Below w0.heap.size w0 wc) (hb : w0.heap.size ≤ b) (O : BoOwn wc b (.slice a n cc) R) :
    JnQ T w0 (wc.alloc (.cells #[.slice a n cc] T)) wc.heap.size n a cc R :=
  ⟨CellT.new _ _ _, h.size, own_below (World.ownsRow.mono O hb) ((Below.refl _ _).alloc (Nat.le_refl _) _), fun y hy e => by have := World.ownsRow.lt O y hy; omega, h.alloc h.size _⟩

theorem jn_set (T : TypeId) {w0 wc : World} {b c n cc : Nat} {a : Option Addr} {R : List Bg} {x : Value} (h : Below w0.heap.size w0 wc) (hb : w0.heap.size ≤ c ∧ c < b) (O : BoOwn wc b (.slice a n cc) R) (Y : CellT T wc c x) :
    JnQ T w0 (wc.setCell ⟨c, 0, none⟩ (.slice a n cc)) c n a cc R :=
  ⟨cell_put Y 0 _, hb.1, World.ownsRow.mono (own_aside O hb.2 0 _) (by omega), fun y hy e => by have := World.ownsRow.lt O y hy; omega, h.setCell hb.1 _⟩
end Go.Proofs.YtgacajnljplmiabDoor
