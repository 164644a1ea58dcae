/- The plain mathematics of chapter 2, on: paths. What lies open at a place, told byte by byte; a path within a part is the path behind the part's number. The plain mathematics of chapter 2, on: a path tells its place. The plain mathematics of chapter 2, on: how a path is followed from part to part. -/
import Derived.Test.YtafhpnkedjbcdaaDoorPlain3a
import Derived.Test.YtafhpnkedjbcdaaDoorTreeM
namespace Go.Proofs.YtafhpnkedjbcdaaDoor
open Doc1

/-- What is open at a place: each one's number among the parts around it and where it begins within, the innermost first; and how many parts have ended in the innermost one. -/
structure WS where
  op : List (Nat × Nat)
  kids : Nat
def wst (q : WS) (k : Nat) (c : UInt8) : WS :=
  if opB c then ⟨(q.kids, k + 1) :: q.op, 0⟩
  else if enB c then ⟨q.op.tail, (q.op.headD (0, 0)).1 + 1⟩
  else q
def W (s : List UInt8) : Nat → WS
  | 0 => ⟨[], 0⟩
  | k + 1 => match s[k]? with
    | some c => wst (W s k) k c
    | none => W s k
def pathL (q : WS) (k : Nat) : List Int := (q.op.reverse.map fun x => (x.1 : Int)) ++ [(k : Int) - ((q.op.headD (0, 0)).2 : Int)]
def path (s : List UInt8) (k : Nat) : List Int := pathL (W s k) k
theorem W_succ (s : ByteArray) (k : Nat) (h : k < s.size) : W s.data.toList (k + 1) = wst (W s.data.toList k) k s[k] := by
  have : s.data.toList[k]? = some s[k] := by rw [List.getElem?_eq_getElem (by simpa using h)]; rfl
  simp only [W, this]
theorem wst_op {q : WS} {k : Nat} {c : UInt8} (h : opB c = true) : wst q k c = ⟨(q.kids, k + 1) :: q.op, 0⟩ := by simp [wst, h]
theorem wst_en {q : WS} {k : Nat} {c : UInt8} (h : enB c = true) : wst q k c = ⟨q.op.tail, (q.op.headD (0, 0)).1 + 1⟩ := by simp [wst, op_of_en h, h]
theorem wst_pl {q : WS} {k : Nat} {c : UInt8} (h : opB c = false) (h2 : enB c = false) : wst q k c = q := by simp [wst, h, h2]
theorem W_len (s : ByteArray) (hd : doc s.data.toList = true) : ∀ k, k ≤ s.size → ((W s.data.toList k).op.length : Int) = dep s.data.toList k
  | 0, _ => by rw [dep_zero]; rfl
  | k + 1, h => by
    have ih := W_len s hd k (by omega)
    have hb := (dep_bd s hd (k + 1) h).1
    rw [dep_succ s k (by omega)] at hb
    rw [W_succ s k (by omega), dep_succ s k (by omega)]
    by_cases ho : opB (s[k]'(by omega)) = true
    · rw [wst_op ho, dl_is_op ho]; simp; omega
    · by_cases he : enB (s[k]'(by omega)) = true
      · rw [wst_en he]
        have e : dl (s[k]'(by omega)) = -1 := by simp [dl, ho, he]
        rw [e] at hb ⊢
        simp
        omega
      · rw [wst_pl (by simpa using ho) (by simpa using he)]
        have e : dl (s[k]'(by omega)) = 0 := by simp [dl, ho, he]
        rw [e]; omega
theorem W_bd (s : ByteArray) : ∀ k, k ≤ s.size → (W s.data.toList k).kids ≤ k ∧ (∀ x ∈ (W s.data.toList k).op, x.1 ≤ k ∧ x.2 ≤ k) ∧ (W s.data.toList k).op.length ≤ k
  | 0, _ => ⟨Nat.le_refl _, by simp [W], Nat.le_refl _⟩
  | k + 1, h => by
    obtain ⟨i1, i2, i3⟩ := W_bd s k (by omega)
    rw [W_succ s k (by omega)]
    by_cases ho : opB (s[k]'(by omega)) = true
    · rw [wst_op ho]
      refine ⟨Nat.zero_le _, ?_, by simp; omega⟩
      intro x hx
      rcases List.mem_cons.1 hx with rfl | hx
      · exact ⟨by simp; omega, Nat.le_refl _⟩
      · have := i2 x hx; omega
    · by_cases he : enB (s[k]'(by omega)) = true
      · rw [wst_en he]
        refine ⟨?_, fun x hx => ?_, by simp; omega⟩
        · cases hq : (W s.data.toList k).op with
          | nil => simp
          | cons a l => have := i2 a (by rw [hq]; simp); simp; omega
        · have := i2 x (List.mem_of_mem_tail hx); omega
      · rw [wst_pl (by simpa using ho) (by simpa using he)]
        exact ⟨by omega, fun x hx => by have := i2 x hx; omega, by omega⟩
/-- Places within a part that begins at b. -/
def shiftW (b : Nat) (l : List (Nat × Nat)) : List (Nat × Nat) := l.map fun x => (x.1, x.2 + b)
theorem W_sub {s : ByteArray} {i K m : Nat} (hd : doc s.data.toList = true) (hK : IsEnd s i K) (hp : opB (s[i]'(by have := hK.lo; have := hK.hi; omega)) = true) (hW : W s.data.toList i = ⟨[], m⟩) :
    ∀ j, j ≤ K - (i + 1) → W s.data.toList (i + 1 + j) = ⟨shiftW (i + 1) (W (s.extract (i + 1) K).data.toList j).op ++ [(m, i + 1)], (W (s.extract (i + 1) K).data.toList j).kids⟩ := by
  have hlo := hK.lo
  have hhi := hK.hi
  have hdi := doc_inner3 hd hK hp
  have hsz : (s.extract (i + 1) K).size = K - (i + 1) := by rw [ByteArray.size_extract]; omega
  intro j
  induction j with
  | zero => intro _; rw [Nat.add_zero, W_succ s i (by omega), hW, wst_op hp]; rfl
  | succ j ih =>
    intro hj
    have ih := ih (by omega)
    have hget : (s.extract (i + 1) K)[j]'(by omega) = s[i + 1 + j]'(by omega) := by
      simp [ByteArray.getElem_extract]
    rw [show i + 1 + (j + 1) = i + 1 + j + 1 by omega, W_succ s (i + 1 + j) (by omega), ih, W_succ (s.extract (i + 1) K) j (by omega), hget]
    have hln := W_len _ hdi j (by omega)
    have hbd := (dep_bd _ hdi (j + 1) (by omega)).1
    rw [dep_succ (s.extract (i + 1) K) j (by omega), hget] at hbd
    by_cases ho : opB (s[i + 1 + j]'(by omega)) = true
    · rw [wst_op ho, wst_op ho]; simp [shiftW]; omega
    · by_cases he : enB (s[i + 1 + j]'(by omega)) = true
      · rw [wst_en he, wst_en he]
        have e : dl (s[i + 1 + j]'(by omega)) = -1 := by simp [dl, ho, he]
        rw [e] at hbd
        cases hq : (W (s.extract (i + 1) K).data.toList j).op with
        | nil => exfalso; rw [hq] at hln; simp only [List.length_nil] at hln; omega
        | cons a l => simp [shiftW]
      · rw [wst_pl (by simpa using ho) (by simpa using he), wst_pl (by simpa using ho) (by simpa using he)]
/-- The path of a place within a part. -/
theorem path_in {s : ByteArray} {i K m a : Nat} (hd : doc s.data.toList = true) (hK : IsEnd s i K) (hp : opB (s[i]'(by have := hK.lo; have := hK.hi; omega)) = true) (hW : W s.data.toList i = ⟨[], m⟩) (h1 : i < a) (h2 : a ≤ K) :
    path s.data.toList a = (m : Int) :: path (s.extract (i + 1) K).data.toList (a - (i + 1)) := by
  have h := W_sub hd hK hp hW (a - (i + 1)) (by omega)
  rw [show i + 1 + (a - (i + 1)) = a by omega] at h
  unfold path pathL
  rw [h]
  cases hq : (W (s.extract (i + 1) K).data.toList (a - (i + 1))).op with
  | nil => simp [shiftW]; omega
  | cons x l =>
    have e : (a : Int) - ((x.2 : Int) + ((i : Int) + 1)) = ((a - (i + 1) : Nat) : Int) - (x.2 : Int) := by omega
    simp [shiftW, e]
theorem W_after {s : ByteArray} {i K m : Nat} (hd : doc s.data.toList = true) (hK : IsEnd s i K) (hp : opB (s[i]'(by have := hK.lo; have := hK.hi; omega)) = true) (hW : W s.data.toList i = ⟨[], m⟩) :
    W s.data.toList (K + 1) = ⟨[], m + 1⟩ := by
  have hlo := hK.lo
  have hhi := hK.hi
  have h := W_sub hd hK hp hW (K - (i + 1)) (Nat.le_refl _)
  have hdi := doc_inner3 hd hK hp
  have hsz : (s.extract (i + 1) K).size = K - (i + 1) := by rw [ByteArray.size_extract]; omega
  have hl := W_len _ hdi (K - (i + 1)) (by omega)
  have h0 := dep_last _ hdi
  rw [hsz] at h0
  rw [h0] at hl
  have hnil : (W (s.extract (i + 1) K).data.toList (K - (i + 1))).op = [] := List.eq_nil_of_length_eq_zero (by omega)
  rw [show i + 1 + (K - (i + 1)) = K by omega, hnil] at h
  have he := en_of_dl (end_begin hK (dl_is_op hp)).1
  rw [W_succ s K hhi, h, wst_en he]
  simp [shiftW]
end Go.Proofs.YtafhpnkedjbcdaaDoor

namespace Go.Proofs.YtafhpnkedjbcdaaDoor
open Doc1

theorem top_next {s : ByteArray} (hd : doc s.data.toList = true) {q c : Nat} (hq : q < s.size) (hW : W s.data.toList q = ⟨[], c⟩) :
    (opB s[q] = false ∧ W s.data.toList (q + 1) = ⟨[], c⟩) ∨ (opB s[q] = true ∧ ∃ K, IsEnd s q K ∧ W s.data.toList (K + 1) = ⟨[], c + 1⟩) := by
  by_cases ho : opB s[q] = true
  · obtain ⟨K, hK⟩ := end_ex s hd q hq (dl_is_op ho)
    exact Or.inr ⟨ho, K, hK, W_after hd hK ho hW⟩
  · left
    refine ⟨by simpa using ho, ?_⟩
    have hne : enB s[q] = false := by
      cases he : enB s[q] with
      | false => rfl
      | true =>
        have h1 := dep_succ s q hq
        have h2 := (dep_bd s hd (q + 1) (by omega)).1
        have h3 := W_len s hd q (by omega)
        rw [hW] at h3
        simp only [List.length_nil] at h3
        rw [show dl s[q] = -1 by simp [dl, op_of_en he, he]] at h1
        omega
    rw [W_succ s q hq, wst_pl (by simpa using ho) hne, hW]
theorem top_beyond {s : ByteArray} (hd : doc s.data.toList = true) {q K b c : Nat} (hK : IsEnd s q K) (ho : opB (s[q]'(by have := hK.lo; have := hK.hi; omega)) = true) (hq : W s.data.toList q = ⟨[], c⟩) (hb : b ≤ s.size) (hqb : q < b) (hW : (W s.data.toList b).op = []) : K < b := by
  apply Classical.byContradiction
  intro hn
  have h1 := end_gt hK (dl_is_op ho) b hqb (by omega)
  have h2 := W_len s hd b hb
  have h3 := W_len s hd q (by have := hK.lo; have := hK.hi; omega)
  rw [hW] at h2
  rw [hq] at h3
  simp only [List.length_nil] at h2 h3
  omega
theorem kids_mono {s : ByteArray} (hd : doc s.data.toList = true) : ∀ (d q b c c' : Nat), b - q ≤ d → q ≤ b → b ≤ s.size → W s.data.toList q = ⟨[], c⟩ → W s.data.toList b = ⟨[], c'⟩ → c ≤ c'
  | 0, q, b, c, c', h, h1, h2, h3, h4 => by
    obtain rfl : q = b := by omega
    rw [h3] at h4
    injection h4 with _ h5
    omega
  | d + 1, q, b, c, c', h, h1, h2, h3, h4 => by
    by_cases e : q = b
    · subst e; rw [h3] at h4; injection h4 with _ h5; omega
    · rcases top_next hd (by omega) h3 with ⟨_, h5⟩ | ⟨ho, K, hK, h5⟩
      · exact kids_mono hd d (q + 1) b c c' (by omega) (by omega) h2 h5 h4
      · have := top_beyond hd hK ho h3 h2 (by omega) (by rw [h4])
        have hlo := hK.lo
        have := kids_mono hd d (K + 1) b (c + 1) c' (by omega) (by omega) h2 h5 h4
        omega
/-- Two parts of one number are one. -/
theorem same_part {s : ByteArray} (hd : doc s.data.toList = true) {q i m : Nat} (hq : q < s.size) (hi : i < s.size) (oq : opB s[q] = true) (oi : opB s[i] = true) (hW : W s.data.toList q = ⟨[], m⟩) (hW' : W s.data.toList i = ⟨[], m⟩) : q = i := by
  have key : ∀ {a b : Nat} (ha : a < s.size) (_ : b < s.size), opB (s[a]'ha) = true → W s.data.toList a = ⟨[], m⟩ → W s.data.toList b = ⟨[], m⟩ → ¬ a < b := by
    intro a b ha hb oa h1 h2 hlt
    rcases top_next hd ha h1 with ⟨h, _⟩ | ⟨_, K, hK, h5⟩
    · rw [oa] at h; cases h
    · have := top_beyond hd hK oa h1 (by omega) hlt (by rw [h2])
      have := kids_mono hd (b - (K + 1)) (K + 1) b (m + 1) m (Nat.le_refl _) (by omega) (by omega) h5 h2
      omega
  have h1 := key hq hi oq hW hW'
  have h2 := key hi hq oi hW' hW
  omega
theorem end_one {s : ByteArray} {a K K' : Nat} (h : IsEnd s a K) (h' : IsEnd s a K') : K = K' := by
  have h1 := h.no K'
  have h2 := h'.no K
  have := h.lo
  have := h'.lo
  have := h.at_
  have := h'.at_
  apply Classical.byContradiction
  intro hne
  by_cases hlt : K < K'
  · exact h2 (by omega) hlt h.at_
  · exact h1 (by omega) (by omega) h'.at_
/-- A place that is not outside of all parts is in one. -/
theorem part_of {s : ByteArray} (hd : doc s.data.toList = true) {a : Nat} (ha : a ≤ s.size) (hne : (W s.data.toList a).op ≠ []) : ∀ (d q c : Nat), a - q ≤ d → q ≤ a → W s.data.toList q = ⟨[], c⟩ →
    ∃ (i K m : Nat) (hi : i < s.size), opB s[i] = true ∧ IsEnd s i K ∧ W s.data.toList i = ⟨[], m⟩ ∧ i < a ∧ a ≤ K
  | 0, q, c, h, h1, h2 => by
    obtain rfl : q = a := by omega
    rw [h2] at hne; exact absurd rfl hne
  | d + 1, q, c, h, h1, h2 => by
    by_cases e : q = a
    · subst e; rw [h2] at hne; exact absurd rfl hne
    · rcases top_next hd (by omega) h2 with ⟨_, h5⟩ | ⟨ho, K, hK, h5⟩
      · exact part_of hd ha hne d (q + 1) c (by omega) (by omega) h5
      · by_cases hKa : a ≤ K
        · exact ⟨q, K, c, by omega, ho, hK, h2, by omega, hKa⟩
        · have := hK.lo
          exact part_of hd ha hne d (K + 1) (c + 1) (by omega) (by omega) h5
theorem part_ex {s : ByteArray} (hd : doc s.data.toList = true) {a : Nat} (ha : a ≤ s.size) (hne : (W s.data.toList a).op ≠ []) : ∃ (i K m : Nat) (hi : i < s.size), opB s[i] = true ∧ IsEnd s i K ∧ W s.data.toList i = ⟨[], m⟩ ∧ i < a ∧ a ≤ K :=
  part_of hd ha hne a 0 0 (by omega) (by omega) rfl
theorem path_one {s : ByteArray} {a : Nat} : (W s.data.toList a).op = [] → path s.data.toList a = [(a : Int)] := by
  intro h; unfold path pathL; rw [h]; simp
theorem path_ne (s : List UInt8) (a : Nat) : path s a ≠ [] := by unfold path pathL; simp
/-- A path tells its place. -/
theorem path_inj : ∀ (n : Nat) (s : ByteArray), s.size ≤ n → doc s.data.toList = true → ∀ a b, a ≤ s.size → b ≤ s.size → path s.data.toList a = path s.data.toList b → a = b := by
  intro n
  induction n with
  | zero => intro s hs _ a b ha hb _; omega
  | succ n ih =>
    intro s hs hd a b ha hb h
    by_cases h1 : (W s.data.toList a).op = []
    · by_cases h2 : (W s.data.toList b).op = []
      · rw [path_one h1, path_one h2] at h
        injection h with h _
        omega
      · obtain ⟨i, K, m, hi, ho, hK, hW, h3, h4⟩ := part_ex hd hb h2
        rw [path_one h1, path_in hd hK ho hW h3 h4] at h
        injection h with _ h
        exact absurd h.symm (path_ne _ _)
    · obtain ⟨i, K, m, hi, ho, hK, hW, h3, h4⟩ := part_ex hd ha h1
      by_cases h2 : (W s.data.toList b).op = []
      · rw [path_one h2, path_in hd hK ho hW h3 h4] at h
        injection h with _ h
        exact absurd h (path_ne _ _)
      · obtain ⟨i', K', m', hi', ho', hK', hW', h3', h4'⟩ := part_ex hd hb h2
        rw [path_in hd hK ho hW h3 h4, path_in hd hK' ho' hW' h3' h4'] at h
        injection h with hm h
        obtain rfl : m = m' := by omega
        obtain rfl := same_part hd hi hi' ho ho' hW hW'
        obtain rfl := end_one hK hK'
        have hlo := hK.lo
        have hhi := hK.hi
        have := ih (s.extract (i + 1) K) (by rw [ByteArray.size_extract]; omega) (doc_inner3 hd hK ho) (a - (i + 1)) (b - (i + 1)) (by rw [ByteArray.size_extract]; omega) (by rw [ByteArray.size_extract]; omega) h
        omega
end Go.Proofs.YtafhpnkedjbcdaaDoor

namespace Go.Proofs.YtafhpnkedjbcdaaDoor
open Doc1

theorem get_sub (s : ByteArray) (b e j : Nat) (he : e ≤ s.size) (hj : j < e - b) : ∃ h1 : j < (s.extract b e).size, ∃ h2 : b + j < s.size, (s.extract b e)[j] = s[b + j] := by
  have h1 : j < (s.extract b e).size := by rw [ByteArray.size_extract]; omega
  exact ⟨h1, by omega, by simp [ByteArray.getElem_extract]⟩
theorem dep_shift (s : ByteArray) (b e : Nat) (he : e ≤ s.size) : ∀ j, j ≤ e - b → dep s.data.toList (b + j) = dep s.data.toList b + dep (s.extract b e).data.toList j
  | 0, _ => by rw [dep_zero]; simp
  | j + 1, h => by
    obtain ⟨h1, h2, hg⟩ := get_sub s b e j he (by omega)
    have ih := dep_shift s b e he j (by omega)
    rw [show b + (j + 1) = b + j + 1 by omega, dep_succ s (b + j) h2, dep_succ (s.extract b e) j h1, hg, ih]; omega
theorem end_up {s : ByteArray} {b e i K : Nat} (he : e ≤ s.size) (hK : IsEnd (s.extract b e) i K) : IsEnd s (b + i) (b + K) := by
  have hlo := hK.lo
  have hhi := hK.hi
  rw [ByteArray.size_extract] at hhi
  have D := dep_shift s b e he
  refine ⟨by omega, by omega, ?_, fun j h1 h2 => ?_⟩
  · rw [show b + K + 1 = b + (K + 1) by omega, D (K + 1) (by omega), D i (by omega), hK.at_]
  · have := hK.no (j - b) (by omega) (by omega)
    have e1 := D (j - b + 1) (by omega)
    have e2 := D i (by omega)
    rw [show b + (j - b + 1) = j + 1 by omega] at e1
    omega
/-- So far a path was followed: what lies between b and e. -/
structure Sub (S : ByteArray) (p : List Int) (fo : Option Nat) (j b e : Nat) : Prop where
  be : b ≤ e
  le : e ≤ S.size
  doc : doc (S.extract b e).data.toList = true
  path : ∀ c, b ≤ c → c ≤ e → path S.data.toList c = p.take j ++ Go.Proofs.YtafhpnkedjbcdaaDoor.path (S.extract b e).data.toList (c - b)
  has : ∀ n, fo = some n → b ≤ n ∧ n ≤ e
theorem extract_in (s : ByteArray) (b e a c : Nat) (h : c ≤ e - b) (he : b ≤ e) : (s.extract b e).extract a c = s.extract (b + a) (b + c) := by
  rw [ByteArray.extract_extract]
  congr 1
  omega
theorem extract_all (s : ByteArray) : s.extract 0 s.size = s := by simp
theorem sub_start (S : ByteArray) (p : List Int) (fo : Option Nat) (hd : doc S.data.toList = true) (hf : ∀ n, fo = some n → n ≤ S.size) : Sub S p fo 0 0 S.size where
  be := Nat.zero_le _
  le := Nat.le_refl _
  doc := by rw [extract_all]; exact hd
  path := fun c _ _ => by rw [extract_all]; simp
  has := fun n hn => ⟨Nat.zero_le _, hf n hn⟩
/-- One part further. -/
theorem sub_next {S : ByteArray} {p : List Int} {fo : Option Nat} {j b e i K m : Nat} (h : Sub S p fo j b e) (hj : j + 1 < p.length) (hK : IsEnd (S.extract b e) i K) (ho : opB ((S.extract b e)[i]'(by have := hK.lo; have := hK.hi; omega)) = true) (hW : W (S.extract b e).data.toList i = ⟨[], m⟩) (hm : p[j] = (m : Int))
    (hfo : ∀ n, fo = some n → path S.data.toList n = p) : Sub S p fo (j + 1) (b + i + 1) (b + K) := by
  have hlo := hK.lo
  have hhi := hK.hi
  rw [ByteArray.size_extract] at hhi
  have hle := h.le
  have hbe := h.be
  have ex : S.extract (b + i + 1) (b + K) = (S.extract b e).extract (i + 1) K := by rw [extract_in S b e (i + 1) K (by omega) h.be, Nat.add_assoc]
  refine ⟨by omega, by omega, ?_, ?_, ?_⟩
  · rw [ex]; exact doc_inner3 h.doc hK ho
  · intro c h1 h2
    rw [h.path c (by omega) (by omega), path_in h.doc hK ho hW (by omega) (by omega), ex, List.take_succ_eq_append_getElem (by omega), hm, List.append_assoc]
    rw [show c - b - (i + 1) = c - (b + i + 1) by omega]
    rfl
  · intro n hn
    obtain ⟨g1, g2⟩ := h.has n hn
    have hp := h.path n g1 g2
    rw [hfo n hn] at hp
    have hdr : p.drop j = path (S.extract b e).data.toList (n - b) := by
      have := congrArg (List.drop j) hp
      rw [List.drop_append_of_le_length (by simp; omega)] at this
      simpa using this
    have hsz : n - b ≤ (S.extract b e).size := by rw [ByteArray.size_extract]; omega
    have hne : (W (S.extract b e).data.toList (n - b)).op ≠ [] := by
      intro h0
      rw [path_one h0] at hdr
      have := congrArg List.length hdr
      simp at this; omega
    obtain ⟨i', K', m', hi', ho', hK', hW', h3, h4⟩ := part_ex h.doc hsz hne
    rw [path_in h.doc hK' ho' hW' h3 h4, List.drop_eq_getElem_cons (by omega)] at hdr
    injection hdr with hd1 _
    rw [hm] at hd1
    obtain rfl : m = m' := by omega
    have hi1 : i < (S.extract b e).size := by rw [ByteArray.size_extract]; omega
    obtain rfl := same_part h.doc hi1 hi' ho ho' hW hW'
    obtain rfl := end_one hK hK'
    omega
/-- No part of that number: the path leads nowhere. -/
theorem sub_none {S : ByteArray} {p : List Int} {fo : Option Nat} {j b e c : Nat} (h : Sub S p fo j b e) (hj : j + 1 < p.length) (hW : W (S.extract b e).data.toList (e - b) = ⟨[], c⟩) (hc : 0 ≤ p[j] → (c : Int) ≤ p[j])
    (hfo : ∀ n, fo = some n → path S.data.toList n = p) : fo = none := by
  cases hf : fo with
  | none => rfl
  | some n =>
    exfalso
    obtain ⟨g1, g2⟩ := h.has n hf
    have hle := h.le
    have hp := h.path n g1 g2
    rw [hfo n hf] at hp
    have hdr : p.drop j = path (S.extract b e).data.toList (n - b) := by
      have := congrArg (List.drop j) hp
      rw [List.drop_append_of_le_length (by simp; omega)] at this
      simpa using this
    have hsz : n - b ≤ (S.extract b e).size := by rw [ByteArray.size_extract]; omega
    have hne : (W (S.extract b e).data.toList (n - b)).op ≠ [] := by
      intro h0
      rw [path_one h0] at hdr
      have := congrArg List.length hdr
      simp at this; omega
    obtain ⟨i', K', m', hi', ho', hK', hW', h3, h4⟩ := part_ex h.doc hsz hne
    rw [path_in h.doc hK' ho' hW' h3 h4, List.drop_eq_getElem_cons (by omega)] at hdr
    injection hdr with hd1 _
    have hhi := hK'.hi
    rw [ByteArray.size_extract] at hhi
    have hA := W_after h.doc hK' ho' hW'
    have := kids_mono h.doc (e - b) (K' + 1) (e - b) (m' + 1) c (by omega) (by omega) (by rw [ByteArray.size_extract]; omega) hA hW
    have := hc (by omega)
    omega
/-- The last number is the place within. -/
theorem sub_last {S : ByteArray} {p : List Int} {fo : Option Nat} {j b e n : Nat} (h : Sub S p fo j b e) (hj : j + 1 = p.length) (hn : fo = some n) (hfo : path S.data.toList n = p) : p[j] = ((n - b : Nat) : Int) ∧ b ≤ n ∧ n ≤ e := by
  obtain ⟨g1, g2⟩ := h.has n hn
  have hp := h.path n g1 g2
  rw [hfo] at hp
  have hle := h.le
  have hdr : p.drop j = path (S.extract b e).data.toList (n - b) := by
    have := congrArg (List.drop j) hp
    rw [List.drop_append_of_le_length (by simp; omega)] at this
    simpa using this
  have hsz : n - b ≤ (S.extract b e).size := by rw [ByteArray.size_extract]; omega
  by_cases h0 : (W (S.extract b e).data.toList (n - b)).op = []
  · rw [path_one h0, List.drop_eq_getElem_cons (by omega)] at hdr
    injection hdr with hd1 _
    exact ⟨hd1, g1, g2⟩
  · exfalso
    obtain ⟨i', K', m', hi', ho', hK', hW', h3, h4⟩ := part_ex h.doc hsz h0
    rw [path_in h.doc hK' ho' hW' h3 h4] at hdr
    have := congrArg List.length hdr
    have h5 := List.length_pos_iff.2 (path_ne ((S.extract b e).extract (i' + 1) K').data.toList (n - b - (i' + 1)))
    simp at this h5; omega
end Go.Proofs.YtafhpnkedjbcdaaDoor
