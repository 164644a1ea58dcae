/- A text with its sum behind it: the program's sealed and the model's l18Line. -/
import Derived.Test.YtmjehpigfkobeabDoorSumW
import Derived.Test.YtmjehpigfkobeabDoorOpT2
set_option linter.unusedVariables false
namespace Go.Proofs.YtmjehpigfkobeabDoor
open Go.RowKit Go.Shelf
open Doc1

attribute [local go_sem] Oper.semAt_some

def seB (X : ByteArray) : ByteArray := X ++ (⟨#[32]⟩ : ByteArray) ++ baD (sumL X.data.toList) ++ (⟨#[10]⟩ : ByteArray)
theorem dig_ten {n : Nat} (h : n < 10000000000) : (dig n).length ≤ 10 := by
  rcases Nat.lt_or_ge 10 (dig n).length with c | c
  · have := nmr_long (dig_nmr n) c
    rw [dig_nv] at this
    omega
  · exact c
theorem baD_sum (X : ByteArray) : (baD (sumL X.data.toList)).size ≤ 10 := by
  have h := sum_lt X.data.toList
  have := dig_ten (n := sumL X.data.toList) (by omega)
  unfold baD
  show (dig _).toArray.size ≤ 10
  simpa using this
theorem sumS_any2 (s : ByteArray) (w : World) (hs : s.size ≤ 1048576) :
    Calls Tryd.prog 80 #[.string s] w fun e w' => e = .returned (.int .i64 (sumL s.data.toList)) ∧ w' = w := sumS_l s w hs

set_option maxHeartbeats 2000000 in
theorem sealI (X : ByteArray) (w : World) (hs : X.size ≤ 1048576) (hT : TabP w) :
    Calls Tryd.prog 39 #[.string X] w fun e w' => e = .returned (.string (seB X)) ∧ Below w.heap.size w w' := by
  have SU := hide (sumI_any X w (by omega))
  have hn := sum_lt X.data.toList
  have hd := baD_sum X
  unfold seB
  have IT := fun w' (hb : Below w.heap.size w w') => itoa_any (sumL X.data.toList) (by omega) w' (hT.below hb)
  generalize baD (sumL X.data.toList) = D at *
  generalize sumL X.data.toList = n at *
  replace IT := hide IT
  clear hT
  go_enter Tryd.func39, Tryd.ntmps39
  go_wp2_with (first | (go_at_call 70; refine SU.out.mono ?_; rintro e w2 ⟨rfl, hb2⟩) | (go_at_call 69; refine (IT.out _ hb2).mono ?_; rintro e w3 ⟨rfl, hb3⟩))
  go_ret
  exact ⟨rfl, hb2.trans (hb3.mono hb2.size)⟩

set_option maxHeartbeats 2000000 in
theorem sealS (X : ByteArray) (w : World) (hs : X.size ≤ 1048576) :
    Calls Tryd.prog 53 #[.string X] w fun e w' => e = .returned (.string (seB X)) ∧ Below w.heap.size w w' := by
  have SU := hide (fun w' => sumS_any2 X w' (by omega))
  have hn := sum_lt X.data.toList
  have hd := baD_sum X
  unfold seB
  have IT := fun w' => numS_any (sumL X.data.toList) w' (by omega)
  generalize baD (sumL X.data.toList) = D at *
  generalize sumL X.data.toList = n at *
  replace IT := hide IT
  go_enter Tryd.func53, Tryd.ntmps53
  go_wp2_with (first | (go_at_call 80; refine (SU.out _).mono ?_; rintro e w2 ⟨rfl, hw⟩; replace hw := hw.symm; subst hw) | (go_at_call 79; refine (IT.out _).mono ?_; rintro e w3 ⟨rfl, hb3⟩))
  go_ret
  exact ⟨rfl, hb3⟩

end Go.Proofs.YtmjehpigfkobeabDoor
