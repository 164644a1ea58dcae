/- The plain mathematics of chapter 3: which parts and which changes are good, and how many bytes a change takes and makes. -/
import Derived.Test.YtbmnciejaknonauDoorOps1
namespace Go.Proofs.YtbmnciejaknonauDoor.Doc1

def Pt.putL (p : Pt) : List UInt8 := p.put.data.toList
def Pt.dropL (p : Pt) : List UInt8 := p.drop.data.toList
/-- The kind of a part: 1 it keeps, 2 it puts, 3 it drops, 0 it is not good. -/
def pk (p : Pt) : Nat :=
  if p.put.data.toList = [] ∧ p.drop.data.toList = [] ∧ 1 ≤ p.keep ∧ p.keep ≤ 300 then 1
  else if p.keep = 0 ∧ p.drop.data.toList = [] ∧ p.put.data.toList ≠ [] ∧ good p.put.data.toList = true then 2
  else if p.keep = 0 ∧ p.put.data.toList = [] ∧ p.drop.data.toList ≠ [] ∧ good p.drop.data.toList = true then 3
  else 0
/-- A good part, as the model has it. -/
def gp (p : Pt) : Bool :=
  if p.keep ≠ 0 then decide (1 ≤ p.keep ∧ p.keep ≤ 300) && (decide (p.put.data.toList = []) && decide (p.drop.data.toList = []))
  else if p.put.data.toList ≠ [] then decide (p.drop.data.toList = []) && good p.put.data.toList
  else decide (p.drop.data.toList ≠ []) && good p.drop.data.toList
theorem gp_pk (p : Pt) : gp p = decide (pk p ≠ 0) := by
  unfold gp pk
  by_cases h0 : p.keep = 0
  · by_cases h1 : p.put.data.toList = []
    · by_cases h2 : p.drop.data.toList = []
      · simp [h0, h1, h2]
      · simp [h0, h1, h2]
    · by_cases h2 : p.drop.data.toList = []
      · simp [h0, h1, h2]
      · simp [h0, h1, h2]
  · by_cases h1 : p.put.data.toList = []
    · by_cases h2 : p.drop.data.toList = []
      · by_cases h3 : 1 ≤ p.keep ∧ p.keep ≤ 300
        · simp [h0, h1, h2, h3]
        · simp [h0, h1, h2, h3]
      · simp [h0, h1, h2]
    · simp [h0, h1]
/-- What a part takes and makes. -/
def tk1 (p : Pt) : Int := p.keep + (p.drop.size : Int)
def mk1 (p : Pt) : Int := p.keep + (p.put.size : Int)
def tkL (l : List Pt) : Int := (l.map tk1).sum
def mkL (l : List Pt) : Int := (l.map mk1).sum
def goodO (l : List Pt) : Bool := decide (l.length ≤ 60) && (l.all gp && (decide (tkL l ≤ 300) && decide (mkL l ≤ 300)))
theorem tkL_snoc (l : List Pt) (p : Pt) : tkL (l ++ [p]) = tkL l + tk1 p := by simp [tkL]
theorem mkL_snoc (l : List Pt) (p : Pt) : mkL (l ++ [p]) = mkL l + mk1 p := by simp [mkL]
theorem good_len {a : List UInt8} (h : good a = true) : a.length ≤ 300 := by unfold good at h; simp only [Bool.and_eq_true, decide_eq_true_eq] at h; exact h.2
theorem sz_list (s : ByteArray) : s.size = s.data.toList.length := by simp
theorem pk_bd {p : Pt} (h : pk p ≠ 0) : (0 ≤ tk1 p ∧ tk1 p ≤ 300) ∧ (0 ≤ mk1 p ∧ mk1 p ≤ 300) := by
  unfold pk at h
  unfold tk1 mk1
  rw [sz_list, sz_list]
  split at h
  · rename_i hh
    rw [hh.1, hh.2.1]; simp; omega
  · split at h
    · rename_i hh
      have := good_len hh.2.2.2
      rw [hh.1, hh.2.1]; simp only [List.length_nil]; omega
    · split at h
      · rename_i hh
        have := good_len hh.2.2.2
        rw [hh.1, hh.2.1]; simp only [List.length_nil]; omega
      · exact absurd rfl h
theorem all_bd (l : List Pt) (h : ∀ p ∈ l, pk p ≠ 0) : (0 ≤ tkL l ∧ tkL l ≤ 300 * l.length) ∧ (0 ≤ mkL l ∧ mkL l ≤ 300 * l.length) := by
  induction l with
  | nil => simp [tkL, mkL]
  | cons p l ih =>
    have h1 := pk_bd (h p (by simp))
    have h2 := ih (fun q hq => h q (by simp [hq]))
    have e1 : tkL (p :: l) = tk1 p + tkL l := by simp [tkL]
    have e2 : mkL (p :: l) = mk1 p + mkL l := by simp [mkL]
    rw [e1, e2]
    simp only [List.length_cons]
    omega
theorem goodO_no_len {l : List Pt} (h : ¬ l.length ≤ 60) : goodO l = false := by unfold goodO; rw [decide_eq_false h]; rfl
theorem goodO_no_at {l : List Pt} {i : Nat} (hi : i < l.length) (h : gp l[i] = false) : goodO l = false := by
  unfold goodO
  have : l.all gp = false := by
    rw [List.all_eq_false]
    exact ⟨l[i], List.getElem_mem hi, by rw [h]; simp⟩
  rw [this]; simp
theorem goodO_sums {l : List Pt} (h1 : l.length ≤ 60) (h2 : l.all gp = true) : goodO l = decide (tkL l ≤ 300 ∧ mkL l ≤ 300) := by
  unfold goodO
  rw [decide_eq_true h1, h2, Bool.true_and, Bool.true_and, Bool.decide_and]
end Go.Proofs.YtbmnciejaknonauDoor.Doc1
