/- The contract of the layout's add. -/
import Derived.Test.YtbmnciejaknonatDoorLyW6
import Derived.Test.YtbmnciejaknonatDoorLyW7
namespace Go.Proofs.YtbmnciejaknonatDoor
open Go.RowKit
open Doc1

theorem ta_whole_whole (w : World) : (Instr.typeAssert (.iface 83 (.agg #[])) 73 83 true).run Tryd.prog w = .ok (.tuple #[.agg #[], .bool true]) w := by kernel_rfl
theorem ta_whole_elem (w : World) : (Instr.typeAssert (.iface 83 (.agg #[])) 73 85 true).run Tryd.prog w = .ok (.tuple #[.agg #[.string ⟨#[]⟩], .bool false]) w := by kernel_rfl
theorem ta_whole_run (w : World) : (Instr.typeAssert (.iface 83 (.agg #[])) 73 87 true).run Tryd.prog w = .ok (.tuple #[.agg #[.string ⟨#[]⟩], .bool false]) w := by kernel_rfl
theorem ta_elem_whole (s : ByteArray) (w : World) : (Instr.typeAssert (.iface 85 (.agg #[.string s])) 73 83 true).run Tryd.prog w = .ok (.tuple #[.agg #[], .bool false]) w := by kernel_rfl
theorem ta_elem_elem (s : ByteArray) (w : World) : (Instr.typeAssert (.iface 85 (.agg #[.string s])) 73 85 true).run Tryd.prog w = .ok (.tuple #[.agg #[.string s], .bool true]) w := by kernel_rfl
theorem ta_elem_run (s : ByteArray) (w : World) : (Instr.typeAssert (.iface 85 (.agg #[.string s])) 73 87 true).run Tryd.prog w = .ok (.tuple #[.agg #[.string ⟨#[]⟩], .bool false]) w := by kernel_rfl
theorem ta_run_whole (s : ByteArray) (w : World) : (Instr.typeAssert (.iface 87 (.agg #[.string s])) 73 83 true).run Tryd.prog w = .ok (.tuple #[.agg #[], .bool false]) w := by kernel_rfl
theorem ta_run_elem (s : ByteArray) (w : World) : (Instr.typeAssert (.iface 87 (.agg #[.string s])) 73 85 true).run Tryd.prog w = .ok (.tuple #[.agg #[.string ⟨#[]⟩], .bool false]) w := by kernel_rfl
theorem ta_run_run (s : ByteArray) (w : World) : (Instr.typeAssert (.iface 87 (.agg #[.string s])) 73 87 true).run Tryd.prog w = .ok (.tuple #[.agg #[.string s], .bool true]) w := by kernel_rfl
theorem ta_nil_whole (w : World) : (Instr.typeAssert .nilIface 73 83 true).run Tryd.prog w = .ok (.tuple #[.agg #[], .bool false]) w := by kernel_rfl
theorem ta_nil_elem (w : World) : (Instr.typeAssert .nilIface 73 85 true).run Tryd.prog w = .ok (.tuple #[.agg #[.string ⟨#[]⟩], .bool false]) w := by kernel_rfl
theorem ta_nil_run (w : World) : (Instr.typeAssert .nilIface 73 87 true).run Tryd.prog w = .ok (.tuple #[.agg #[.string ⟨#[]⟩], .bool false]) w := by kernel_rfl

set_option maxRecDepth 100000 in
set_option maxHeartbeats 4000000 in
theorem add_none (g : Nat) (u : Int) (w : World) :
    Calls Tryd.prog 51 #[.pointer (some ⟨g, 0, none⟩), .nilIface, .int .i64 u] w fun e w' => e = .returned (.bool false) ∧ w' = w := by
  have t1 := ta_nil_whole
  have t2 := ta_nil_elem
  have t3 := ta_nil_run
  go_enter Tryd.func51, Tryd.ntmps51
  go_wp2
  go_ret
  exact ⟨rfl, rfl⟩

set_option maxRecDepth 100000 in
set_option maxHeartbeats 4000000 in
/-- A run is added, or not. -/
theorem add_run (B g : Nat) (V : Nat → Value) (z : LS) (u : Int) (s : ByteArray) (w : World) (h : Ly B g V z w) (hB : B ≤ w.heap.size) (hT : Tab w) (hTB : 0 < B) (hl : z.text.length + z.op.length ≤ 3000000) (hf : z.fr.length = z.to.length) (hn : z.to.length ≤ 3000000) (ho : ∀ o ∈ z.op, o < z.to.length) (hs : s.size ≤ 3000000)
    (hy : ∀ y, z.endInto u = some y → y.text.length ≤ 4000000 ∧ y.fr.length ≤ 4000000 ∧ y.to.length ≤ 4000000) :
    Calls Tryd.prog 51 #[.pointer (some ⟨g, 0, none⟩), .iface 87 (.agg #[.string s]), .int .i64 u] w fun e w' => e = .returned (.bool ((z.endInto u).bind fun y => if endsPl y.text then none else some (y.write s.data.toList)).isSome) ∧ Below B w w' ∧ ∀ y, ((z.endInto u).bind fun y => if endsPl y.text then none else some (y.write s.data.toList)) = some y → ∃ V', Ly B g V' y w' := by
  have t1 := ta_run_whole s
  have t2 := ta_run_elem s
  have t3 := ta_run_run s
  have E := hide (endInto_any B g V z u w h hB (by omega) hf (by omega) ho)
  clear h
  cases hz : z.endInto u with
  | none =>
    rw [hz] at E
    go_enter Tryd.func51, Tryd.ntmps51
    go_wp2_with fail
    refine E.out.mono ?_
    rintro e w1 ⟨rfl, hb1, -⟩
    go_wp2
    go_ret
    exact ⟨rfl, hb1, fun y hy => by simp at hy⟩
  | some y =>
    rw [hz] at E
    have hY := hy y hz
    go_enter Tryd.func51, Tryd.ntmps51
    go_wp2_with fail
    refine E.out.mono ?_
    rintro e w1 ⟨rfl, hb1, hL⟩
    obtain ⟨V1, L1⟩ := hL y rfl
    have P := hide (endsPlain_any B g V1 y w1 L1 hY.1 (hT.low hb1 hTB))
    have H1 := hide L1
    clear L1 hL
    cases hp : endsPl y.text with
    | true =>
      rw [hp] at P
      go_wp2_with fail
      refine P.out.mono ?_
      rintro e w2 ⟨rfl, hb2⟩
      go_wp2
      go_ret
      refine ⟨by simp [hp], hb1.trans (hb2.mono (Nat.le_trans hB hb1.size)), fun y' hy' => by simp [hp] at hy'⟩
    | false =>
      rw [hp] at P
      go_wp2_with fail
      refine P.out.mono ?_
      rintro e w2 ⟨rfl, hb2⟩
      have Wr := hide (write_run B g V1 y s w2 (H1.out.later hb2) (Nat.le_trans (Nat.le_trans hB hb1.size) hb2.size) hY.1 hY.2.1 hY.2.2 (by omega))
      go_wp2_with fail
      refine Wr.out.mono ?_
      rintro e w3 ⟨rfl, hV3, hb3⟩
      go_wp2
      go_ret
      refine ⟨by simp [hp], (hb1.trans (hb2.mono (Nat.le_trans hB hb1.size))).trans hb3, fun y' hy' => ?_⟩
      simp [hp] at hy'
      subst hy'
      exact hV3
end Go.Proofs.YtbmnciejaknonatDoor
