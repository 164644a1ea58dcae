/- Changes of more than sixty parts are refused, whatever they hold. -/
import Derived.Test.YtknilofnelhgmaaDoorOpW10
namespace Go.Proofs.YtknilofnelhgmaaDoor
open Go.RowKit
open Doc1

set_option maxRecDepth 100000 in
theorem sizesI_big {w : World} (a : Option Addr) (n cap : Nat) (h60 : 60 < n) :
    Calls Tryd.prog 16 #[.slice a n cap] w fun e w' => e = .returned (.tuple #[.int .i64 0, .int .i64 0, .bool false]) ∧ Below w.heap.size w w' := by
  have h61 : (60 : Int) < (n : Int) := by omega
  go_enter Tryd.func16, Tryd.ntmps16
  go_wp2
  refine bodyPost_ret (v := .tuple #[.int .i64 0, .int .i64 0, .bool false]) (by simp [results, Tryd.results16, go_sem]) rfl ⟨rfl, ?_⟩
  exact (((Below.refl _ _).alloc (Nat.le_refl _) _).alloc (by simp) _).alloc (by simp; omega) _

set_option maxRecDepth 100000 in
theorem goodOpI_big {w : World} (a : Option Addr) (n cap : Nat) (h60 : 60 < n) :
    Calls Tryd.prog 55 #[.slice a n cap] w fun e w' => e = .returned (.bool false) ∧ Below w.heap.size w w' := by
  have S := hide (sizesI_big (w := w) a n cap h60)
  go_enter Tryd.func55, Tryd.ntmps55
  go_wp2_with fail
  refine S.out.mono ?_
  rintro e w1 ⟨rfl, hb⟩
  go_wp2
  go_ret
  exact ⟨rfl, hb⟩

set_option maxRecDepth 100000 in
theorem goodOpS_big {w : World} (a : Option Addr) (n cap : Nat) (h60 : 60 < n) :
    Calls Tryd.prog 52 #[.slice a n cap] w fun e w' => e = .returned (.bool false) ∧ Below w.heap.size w w' := by
  have h61 : (60 : Int) < (n : Int) := by omega
  go_enter Tryd.func52, Tryd.ntmps52
  go_wp2
  go_ret
  exact ⟨rfl, Below.refl _ _⟩

set_option maxRecDepth 100000 in
theorem normalI_big {w : World} (a : Option Addr) (n cap : Nat) (h60 : 60 < n) :
    Calls Tryd.prog 15 #[.slice a n cap] w fun e w' => ∃ v, e = .returned (.tuple #[v, .bool false]) ∧ POwn w' w.heap.size v [] ∧ Below w.heap.size w w' := by
  have S := hide (goodOpI_big (w := w) a n cap h60)
  go_enter Tryd.func15, Tryd.ntmps15
  go_wp2_with fail
  refine S.out.mono ?_
  rintro e w1 ⟨rfl, hb⟩
  go_wp2
  go_ret2
  exact ⟨_, rfl, World.ownsRow_nil _ _ _ _, hb⟩

set_option maxRecDepth 100000 in
theorem invertI_big {w : World} (a : Option Addr) (n cap : Nat) (h60 : 60 < n) :
    Calls Tryd.prog 12 #[.slice a n cap] w fun e w' => ∃ v, e = .returned (.tuple #[v, .bool false]) ∧ POwn w' w.heap.size v [] ∧ Below w.heap.size w w' := by
  have S := hide (goodOpI_big (w := w) a n cap h60)
  go_enter Tryd.func12, Tryd.ntmps12
  go_wp2_with fail
  refine S.out.mono ?_
  rintro e w1 ⟨rfl, hb⟩
  go_wp2
  go_ret2
  exact ⟨_, rfl, World.ownsRow_nil _ _ _ _, hb⟩

set_option maxRecDepth 100000 in
theorem normalS_big {w : World} (a : Option Addr) (n cap : Nat) (h60 : 60 < n) :
    Calls Tryd.prog 22 #[.slice a n cap] w fun e w' => ∃ v, e = .returned (.tuple #[v, .bool false]) ∧ POwn w' w.heap.size v [] ∧ Below w.heap.size w w' := by
  have S := hide (goodOpS_big (w := w) a n cap h60)
  go_enter Tryd.func22, Tryd.ntmps22
  go_wp2_with fail
  refine S.out.mono ?_
  rintro e w1 ⟨rfl, hb⟩
  go_wp2
  go_ret2
  exact ⟨_, rfl, World.ownsRow_nil _ _ _ _, hb⟩

set_option maxRecDepth 100000 in
theorem invertS_big {w : World} (a : Option Addr) (n cap : Nat) (h60 : 60 < n) :
    Calls Tryd.prog 13 #[.slice a n cap] w fun e w' => ∃ v, e = .returned (.tuple #[v, .bool false]) ∧ POwn w' w.heap.size v [] ∧ Below w.heap.size w w' := by
  have S := hide (goodOpS_big (w := w) a n cap h60)
  go_enter Tryd.func13, Tryd.ntmps13
  go_wp2_with fail
  refine S.out.mono ?_
  rintro e w1 ⟨rfl, hb⟩
  go_wp2
  go_ret2
  exact ⟨_, rfl, World.ownsRow_nil _ _ _ _, hb⟩

set_option maxRecDepth 100000 in
theorem sizesS_big {w : World} (a : Option Addr) (n cap : Nat) (h60 : 60 < n) :
    Calls Tryd.prog 20 #[.slice a n cap] w fun e w' => e = .returned (.tuple #[.int .i64 0, .int .i64 0, .bool false]) ∧ Below w.heap.size w w' := by
  have S := hide (goodOpS_big (w := w) a n cap h60)
  go_enter Tryd.func20, Tryd.ntmps20
  go_wp2_with fail
  refine S.out.mono ?_
  rintro e w1 ⟨rfl, hb⟩
  go_wp2
  go_ret3
  exact ⟨rfl, hb⟩

set_option maxRecDepth 100000 in
theorem applyS_big {w : World} (a : Option Addr) (n cap : Nat) (s : ByteArray) (h60 : 60 < n) :
    Calls Tryd.prog 11 #[.slice a n cap, .string s] w fun e w' => e = .returned (.tuple #[.string ⟨#[]⟩, .bool false]) ∧ Below w.heap.size w w' := by
  have S := hide (goodOpS_big (w := w) a n cap h60)
  go_enter Tryd.func11, Tryd.ntmps11
  go_wp2_with fail
  refine S.out.mono ?_
  rintro e w1 ⟨rfl, hb⟩
  go_wp2
  go_ret2
  exact ⟨rfl, hb⟩

set_option maxRecDepth 100000 in
set_option maxHeartbeats 4000000 in
theorem applyI_big {w : World} (a : Option Addr) (n cap : Nat) (s : ByteArray) (h60 : 60 < n) :
    Calls Tryd.prog 10 #[.slice a n cap, .string s] w fun e w' => e = .returned (.tuple #[.string ⟨#[]⟩, .bool false]) ∧ Below w.heap.size w w' := by
  have hb0 : Hid (∀ a b c : Obj, Below w.heap.size w (((w.alloc a).alloc b).alloc c)) := hide (fun a b c => (((Below.refl _ _).alloc (Nat.le_refl _) _).alloc (by simp) _).alloc (by simp; omega) _)
  have S := hide (fun w' (_ : Below w.heap.size w w') => sizesI_big (w := w') a n cap h60)
  go_enter Tryd.func10, Tryd.ntmps10
  go_wp2_with (go_at_call 16; refine (S.out _ (hb0.out _ _ _)).mono ?_; rintro e w1 ⟨rfl, hb1⟩; obtain ⟨⟨q1, q2, q3⟩, hsw, hbw⟩ := boxes3_up hb1; have e1 := q1.cell; have e2 := q2.cell; have f2 := q2.fz; have e3 := (q3.other (B' := w.heap.size + 1) (by omega) (.string ⟨#[]⟩)).cell; have f3 := (q3.other (B' := w.heap.size + 1) (by omega) (.string ⟨#[]⟩)).fz; have k1 := ((q2.set (.string ⟨#[]⟩)).other (B' := w.heap.size + 1 + 1) (by omega) (.bool false)).cell; have k2 := ((q3.other (B' := w.heap.size + 1) (by omega) (.string ⟨#[]⟩)).set (.bool false)).cell)
  refine bodyPost_ret (v := .tuple #[.string ⟨#[]⟩, .bool false]) (by simp [results, Tryd.results10, go_sem, k1, k2]) rfl ⟨rfl, ?_⟩
  exact (hbw.setCell (p := ⟨w.heap.size + 1, 0, none⟩) (by show _ ≤ _ + 1; omega) _).setCell (p := ⟨w.heap.size + 1 + 1, 0, none⟩) (by show _ ≤ _ + 1 + 1; omega) _
end Go.Proofs.YtknilofnelhgmaaDoor
