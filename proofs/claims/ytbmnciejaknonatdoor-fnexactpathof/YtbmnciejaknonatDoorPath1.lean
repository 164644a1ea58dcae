/- The plain mathematics of chapter 2, on: paths. What lies open at a place, told byte by byte; a path within a part is the path behind the part's number. -/
import Derived.Test.YtbmnciejaknonatDoorPlain3a
import Derived.Test.YtbmnciejaknonatDoorTree1
namespace Go.Proofs.YtbmnciejaknonatDoor
open Doc1

/-- What is open at a place: each one's number among the parts around it and where it begins within, the innermost first; and how many parts have ended in the innermost one. -/
structure WS where
  op : List (Nat × Nat)
  kids : Nat
def wst (q : WS) (k : Nat) (c : UInt8) : WS :=
  if opB c then ⟨(q.kids, k + 1) :: q.op, 0⟩
  else if enB c then ⟨q.op.tail, (q.op.headD (0, 0)).1 + 1⟩
  else q
def W (s : List UInt8) : Nat → WS
  | 0 => ⟨[], 0⟩
  | k + 1 => match s[k]? with
    | some c => wst (W s k) k c
    | none => W s k
def pathL (q : WS) (k : Nat) : List Int := (q.op.reverse.map fun x => (x.1 : Int)) ++ [(k : Int) - ((q.op.headD (0, 0)).2 : Int)]
def path (s : List UInt8) (k : Nat) : List Int := pathL (W s k) k
theorem W_succ (s : ByteArray) (k : Nat) (h : k < s.size) : W s.data.toList (k + 1) = wst (W s.data.toList k) k s[k] := by
  have : s.data.toList[k]? = some s[k] := by rw [List.getElem?_eq_getElem (by simpa using h)]; rfl
  simp only [W, this]
theorem wst_op {q : WS} {k : Nat} {c : UInt8} (h : opB c = true) : wst q k c = ⟨(q.kids, k + 1) :: q.op, 0⟩ := by simp [wst, h]
theorem wst_en {q : WS} {k : Nat} {c : UInt8} (h : enB c = true) : wst q k c = ⟨q.op.tail, (q.op.headD (0, 0)).1 + 1⟩ := by simp [wst, op_of_en h, h]
theorem wst_pl {q : WS} {k : Nat} {c : UInt8} (h : opB c = false) (h2 : enB c = false) : wst q k c = q := by simp [wst, h, h2]
theorem W_len (s : ByteArray) (hd : doc s.data.toList = true) : ∀ k, k ≤ s.size → ((W s.data.toList k).op.length : Int) = dep s.data.toList k
  | 0, _ => by rw [dep_zero]; rfl
  | k + 1, h => by
    have ih := W_len s hd k (by omega)
    have hb := (dep_bd s hd (k + 1) h).1
    rw [dep_succ s k (by omega)] at hb
    rw [W_succ s k (by omega), dep_succ s k (by omega)]
    by_cases ho : opB (s[k]'(by omega)) = true
    · rw [wst_op ho, dl_is_op ho]; simp; omega
    · by_cases he : enB (s[k]'(by omega)) = true
      · rw [wst_en he]
        have e : dl (s[k]'(by omega)) = -1 := by simp [dl, ho, he]
        rw [e] at hb ⊢
        simp
        omega
      · rw [wst_pl (by simpa using ho) (by simpa using he)]
        have e : dl (s[k]'(by omega)) = 0 := by simp [dl, ho, he]
        rw [e]; omega
theorem W_bd (s : ByteArray) : ∀ k, k ≤ s.size → (W s.data.toList k).kids ≤ k ∧ (∀ x ∈ (W s.data.toList k).op, x.1 ≤ k ∧ x.2 ≤ k) ∧ (W s.data.toList k).op.length ≤ k
  | 0, _ => ⟨Nat.le_refl _, by simp [W], Nat.le_refl _⟩
  | k + 1, h => by
    obtain ⟨i1, i2, i3⟩ := W_bd s k (by omega)
    rw [W_succ s k (by omega)]
    by_cases ho : opB (s[k]'(by omega)) = true
    · rw [wst_op ho]
      refine ⟨Nat.zero_le _, ?_, by simp; omega⟩
      intro x hx
      rcases List.mem_cons.1 hx with rfl | hx
      · exact ⟨by simp; omega, Nat.le_refl _⟩
      · have := i2 x hx; omega
    · by_cases he : enB (s[k]'(by omega)) = true
      · rw [wst_en he]
        refine ⟨?_, fun x hx => ?_, by simp; omega⟩
        · cases hq : (W s.data.toList k).op with
          | nil => simp
          | cons a l => have := i2 a (by rw [hq]; simp); simp; omega
        · have := i2 x (List.mem_of_mem_tail hx); omega
      · rw [wst_pl (by simpa using ho) (by simpa using he)]
        exact ⟨by omega, fun x hx => by have := i2 x hx; omega, by omega⟩
/-- Places within a part that begins at b. -/
def shiftW (b : Nat) (l : List (Nat × Nat)) : List (Nat × Nat) := l.map fun x => (x.1, x.2 + b)
theorem W_sub {s : ByteArray} {i K m : Nat} (hd : doc s.data.toList = true) (hK : IsEnd s i K) (hp : opB (s[i]'(by have := hK.lo; have := hK.hi; omega)) = true) (hW : W s.data.toList i = ⟨[], m⟩) :
    ∀ j, j ≤ K - (i + 1) → W s.data.toList (i + 1 + j) = ⟨shiftW (i + 1) (W (s.extract (i + 1) K).data.toList j).op ++ [(m, i + 1)], (W (s.extract (i + 1) K).data.toList j).kids⟩ := by
  have hlo := hK.lo
  have hhi := hK.hi
  have hdi := doc_inner3 hd hK hp
  have hsz : (s.extract (i + 1) K).size = K - (i + 1) := by rw [ByteArray.size_extract]; omega
  intro j
  induction j with
  | zero => intro _; rw [Nat.add_zero, W_succ s i (by omega), hW, wst_op hp]; rfl
  | succ j ih =>
    intro hj
    have ih := ih (by omega)
    have hget : (s.extract (i + 1) K)[j]'(by omega) = s[i + 1 + j]'(by omega) := by
      simp [ByteArray.getElem_extract]
    rw [show i + 1 + (j + 1) = i + 1 + j + 1 by omega, W_succ s (i + 1 + j) (by omega), ih, W_succ (s.extract (i + 1) K) j (by omega), hget]
    have hln := W_len _ hdi j (by omega)
    have hbd := (dep_bd _ hdi (j + 1) (by omega)).1
    rw [dep_succ (s.extract (i + 1) K) j (by omega), hget] at hbd
    by_cases ho : opB (s[i + 1 + j]'(by omega)) = true
    · rw [wst_op ho, wst_op ho]; simp [shiftW]; omega
    · by_cases he : enB (s[i + 1 + j]'(by omega)) = true
      · rw [wst_en he, wst_en he]
        have e : dl (s[i + 1 + j]'(by omega)) = -1 := by simp [dl, ho, he]
        rw [e] at hbd
        cases hq : (W (s.extract (i + 1) K).data.toList j).op with
        | nil => exfalso; rw [hq] at hln; simp only [List.length_nil] at hln; omega
        | cons a l => simp [shiftW]
      · rw [wst_pl (by simpa using ho) (by simpa using he), wst_pl (by simpa using ho) (by simpa using he)]
/-- The path of a place within a part. -/
theorem path_in {s : ByteArray} {i K m a : Nat} (hd : doc s.data.toList = true) (hK : IsEnd s i K) (hp : opB (s[i]'(by have := hK.lo; have := hK.hi; omega)) = true) (hW : W s.data.toList i = ⟨[], m⟩) (h1 : i < a) (h2 : a ≤ K) :
    path s.data.toList a = (m : Int) :: path (s.extract (i + 1) K).data.toList (a - (i + 1)) := by
  have h := W_sub hd hK hp hW (a - (i + 1)) (by omega)
  rw [show i + 1 + (a - (i + 1)) = a by omega] at h
  unfold path pathL
  rw [h]
  cases hq : (W (s.extract (i + 1) K).data.toList (a - (i + 1))).op with
  | nil => simp [shiftW]; omega
  | cons x l =>
    have e : (a : Int) - ((x.2 : Int) + ((i : Int) + 1)) = ((a - (i + 1) : Nat) : Int) - (x.2 : Int) := by omega
    simp [shiftW, e]
theorem W_after {s : ByteArray} {i K m : Nat} (hd : doc s.data.toList = true) (hK : IsEnd s i K) (hp : opB (s[i]'(by have := hK.lo; have := hK.hi; omega)) = true) (hW : W s.data.toList i = ⟨[], m⟩) :
    W s.data.toList (K + 1) = ⟨[], m + 1⟩ := by
  have hlo := hK.lo
  have hhi := hK.hi
  have h := W_sub hd hK hp hW (K - (i + 1)) (Nat.le_refl _)
  have hdi := doc_inner3 hd hK hp
  have hsz : (s.extract (i + 1) K).size = K - (i + 1) := by rw [ByteArray.size_extract]; omega
  have hl := W_len _ hdi (K - (i + 1)) (by omega)
  have h0 := dep_last _ hdi
  rw [hsz] at h0
  rw [h0] at hl
  have hnil : (W (s.extract (i + 1) K).data.toList (K - (i + 1))).op = [] := List.eq_nil_of_length_eq_zero (by omega)
  rw [show i + 1 + (K - (i + 1)) = K by omega, hnil] at h
  have he := en_of_dl (end_begin hK (dl_is_op hp)).1
  rw [W_succ s K hhi, h, wst_en he]
  simp [shiftW]
end Go.Proofs.YtbmnciejaknonatDoor
