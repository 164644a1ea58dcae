/- The contracts of the small functions of chapter 1: kinds of bytes, good texts. -/
import Derived.Test.YtmjehpigfkobeaaRows
import Derived.Test.YtmjehpigfkobeaaPlain
import Derived.WalkKit
import Derived.WalkSpells
import Derived.WalkLawsBesides
namespace Go.Proofs.Ytmjehpigfkobeaa
open Go.RowKit
open Doc1

/-- The table of kinds lies in the world as its initialiser lays it. -/
def Tab (w : World) : Prop := ∀ j, j < 123 → w.cell? ⟨0, j, none⟩ = some (.int .u8 (zs.getD j 0))

theorem ret_bool {a b : Bool} (h : a = b) : Ending.returned (.bool a) = .returned (.bool b) := by rw [h]
theorem kd_big (c : UInt8) (h : 123 ≤ (c.toNat : Int)) : (0 : Int) = kd c := by
  unfold kd kdN
  rw [List.getD_eq_getElem?_getD, List.getElem?_eq_none (by rw [zs_len]; omega)]
  rfl
theorem opB_yes (c : UInt8) (h : (65 : Int) ≤ (c.toNat : Int)) : decide ((c.toNat : Int) ≤ 70) = opB c := by
  unfold opB opN; apply decide_eq_decide.2; omega
theorem opB_no (c : UInt8) (h : (c.toNat : Int) < 65) : false = opB c := by
  unfold opB opN; symm; apply decide_eq_false; omega
theorem opB_no' (c : UInt8) (h : ¬ (65 : Int) ≤ (c.toNat : Int)) : false = opB c := opB_no c (by omega)

theorem goodText_fold (s : ByteArray) (b : Bool) (h : b = allOk s.data.toList) : (b && decide ((s.size : Int) ≤ 300)) = good s.data.toList := by
  subst h; unfold good
  congr 1
  apply decide_eq_decide.2
  simp
  omega
theorem ok_op {c : UInt8} (h : opB c = true) : okC c = true := by simp [okC, h]
theorem ok_pl {c : UInt8} (h : plB c = true) : okC c = true := by simp [okC, h]
theorem en_of {c : UInt8} (h : ((c.toNat : Int) != 47) = false) : enB c = true := by simp at h; simp [enB]; omega
theorem en_no {c : UInt8} (h : ((c.toNat : Int) != 47) = true) : enB c = false := by simp at h; simp [enB]; omega
theorem ok_en {c : UInt8} (h : ((c.toNat : Int) != 47) = false) : okC c = true := by simp [okC, en_of h]
theorem ok_no {c : UInt8} (h1 : ¬ opB c = true) (h2 : ¬ plB c = true) (h : ((c.toNat : Int) != 47) = true) : okC c = false := by simp [okC, h1, h2, en_no h]
theorem ok_kd {c : UInt8} (h : (kd c == 0) = false) : okC c = true := by rw [kd_zero] at h; simpa using h
theorem no_kd {c : UInt8} (h : (kd c == 0) = true) : okC c = false := by rw [kd_zero] at h; simpa using h
theorem rel_ok {b x y z : Bool} (hr : b = x) (hst : x = (y && z)) (hy : y = true) : b = z := by subst hr hst hy; simp
theorem rel_no {b x y z : Bool} (hr : b = x) (hst : x = (y && z)) (hy : y = false) : false = b := by subst hr hst hy; simp

end Go.Proofs.Ytmjehpigfkobeaa
