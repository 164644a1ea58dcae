/- The contracts of chapter 1's readers of documents: balanced texts, documents, depths. -/
import Derived.Test.YtknodkdlphngmaxWalks1
import Derived.Test.YtknodkdlphngmaxLabels
import Derived.ScopeJumps
namespace Go.Proofs.Ytknodkdlphngmax
open Go.RowKit
open Doc1

theorem dl_op {c : UInt8} (h : opB c = true) : dl c = 1 := by simp [dl, h]
theorem dl_en {c : UInt8} (h : opB c = false) (h2 : ((c.toNat : Int) == 47) = true) : dl c = -1 := by
  have : enB c = true := by simp at h2; simp [enB]; omega
  simp [dl, h, this]
theorem dl_pl {c : UInt8} (h : opB c = false) (h2 : ((c.toNat : Int) == 47) = false) : dl c = 0 := by
  have : enB c = false := by simp at h2; simp [enB]; omega
  simp [dl, h, this]
theorem op_en {c : UInt8} (h : opB c = true) : ((c.toNat : Int) == 47) = false := by
  have := (sep c).2.1
  rw [h] at this
  simp [enB] at this
  simp; omega

theorem op_no_en {c : UInt8} (h : opB c = true) (h2 : ((c.toNat : Int) == 47) = true) : False := by rw [op_en h] at h2; cases h2
theorem bal_rel {b : Bool} {L L' : List UInt8} {x e y : Int} (hr : b = rn L x) (hst : rn L x = (decide (0 ≤ x + e) && decide (x + e ≤ 12) && rn L' (x + e))) (hd : x + e = y) (h0 : 0 ≤ y) (h1 : y ≤ 12) : b = rn L' y := by
  subst hd; rw [hr, hst]; simp [h0, h1]
theorem bal_no {b : Bool} {L L' : List UInt8} {x e y : Int} (hr : b = rn L x) (hst : rn L x = (decide (0 ≤ x + e) && decide (x + e ≤ 12) && rn L' (x + e))) (hd : x + e = y) (h : y < 0 ∨ 12 < y) : false = b := by
  subst hd; rw [hr, hst]; simp; omega

end Go.Proofs.Ytknodkdlphngmax
