/- The plain mathematics of chapter 1: kinds of bytes, good texts, depths. Nothing of the program stands here. -/
namespace Go.Proofs.YtmjehpigfkobeabDoor.Doc1

def zs : List Int := [0, 0, 0, 0, 0, 0, 0, 0, 0, 0, 0, 0, 0, 0, 0, 0, 0, 0, 0, 0, 0, 0, 0, 0, 0, 0, 0, 0, 0, 0, 0, 0, 1, 0, 0, 0, 0, 0, 0, 0, 0, 0, 0, 0, 1, 0, 1, 3, 1, 1, 1, 1, 1, 1, 1, 1, 1, 1, 0, 0, 0, 0, 0, 0, 0, 2, 2, 2, 2, 2, 2, 0, 0, 0, 0, 0, 0, 0, 0, 0, 0, 0, 0, 0, 0, 0, 0, 0, 0, 0, 0, 0, 0, 0, 0, 0, 0, 1, 1, 1, 1, 1, 1, 1, 1, 1, 1, 1, 1, 1, 1, 1, 1, 1, 1, 1, 1, 1, 1, 1, 1, 1, 1]
def opN (n : Nat) : Bool := decide (65 ≤ n ∧ n ≤ 70)
def plN (n : Nat) : Bool := decide ((97 ≤ n ∧ n ≤ 122) ∨ (48 ≤ n ∧ n ≤ 57) ∨ n = 32 ∨ n = 46 ∨ n = 44)
def kdN (n : Nat) : Int := zs.getD n 0
def opB (c : UInt8) : Bool := opN c.toNat
def plB (c : UInt8) : Bool := plN c.toNat
def enB (c : UInt8) : Bool := c.toNat == 47
def kd (c : UInt8) : Int := kdN c.toNat
theorem kdN_all : ∀ n, n < 256 → kdN n = if opN n then 2 else if plN n then 1 else if n == 47 then 3 else 0 := by decide +kernel
theorem kd_eq (c : UInt8) : kd c = if opB c then 2 else if plB c then 1 else if enB c then 3 else 0 := kdN_all c.toNat (UInt8.toNat_lt c)
theorem zs_len : zs.length = 123 := by decide +kernel
theorem sep_all : ∀ n, n < 256 → (opN n && plN n) = false ∧ (opN n && n == 47) = false ∧ (plN n && n == 47) = false := by decide +kernel
theorem sep (c : UInt8) : (opB c && plB c) = false ∧ (opB c && enB c) = false ∧ (plB c && enB c) = false := sep_all c.toNat (UInt8.toNat_lt c)
theorem kd_bd_all : ∀ n, n < 256 → 0 ≤ kdN n ∧ kdN n ≤ 3 := by decide +kernel
theorem kd_bd (c : UInt8) : 0 ≤ kd c ∧ kd c ≤ 3 := kd_bd_all c.toNat (UInt8.toNat_lt c)

def okC (c : UInt8) : Bool := opB c || plB c || enB c
theorem kd_zero (c : UInt8) : (kd c == 0) = !okC c := by
  rw [kd_eq]; unfold okC
  cases opB c <;> cases plB c <;> cases enB c <;> rfl
theorem kd_op (c : UInt8) : (kd c == 2) = opB c := by
  rw [kd_eq]
  cases opB c <;> cases plB c <;> cases enB c <;> rfl
theorem kd_pl (c : UInt8) : (kd c == 1) = plB c := by
  have := sep c
  rw [kd_eq]
  revert this
  cases opB c <;> cases plB c <;> cases enB c <;> decide
theorem kd_en (c : UInt8) : (kd c == 3) = enB c := by
  have := sep c
  rw [kd_eq]
  revert this
  cases opB c <;> cases plB c <;> cases enB c <;> decide

/-- Is every byte one of a text's? -/
def allOk (l : List UInt8) : Bool := l.all okC
/-- Good texts. -/
def good (l : List UInt8) : Bool := allOk l && decide (l.length ≤ 300)

/-- What a byte does to the depth. -/
def dl (c : UInt8) : Int := if opB c then 1 else if enB c then -1 else 0
/-- Balanced from a depth on. -/
def rn : List UInt8 → Int → Bool
  | [], d => d == 0
  | c :: l, d => decide (0 ≤ d + dl c) && decide (d + dl c ≤ 12) && rn l (d + dl c)
def doc (l : List UInt8) : Bool := good l && rn l 0

theorem take_snoc (s : ByteArray) (k : Nat) (h : k < s.size) : s.data.toList.take (k + 1) = s.data.toList.take k ++ [s[k]] := by
  rw [List.take_succ_eq_append_getElem (by simpa using h)]; rfl
theorem drop_cons (s : ByteArray) (k : Nat) (h : k < s.size) : s.data.toList.drop k = s[k] :: s.data.toList.drop (k + 1) := by
  rw [List.drop_eq_getElem_cons (by simpa using h)]; rfl
theorem allOk_step (s : ByteArray) (k : Nat) (h : k < s.size) : allOk (s.data.toList.drop k) = (okC s[k] && allOk (s.data.toList.drop (k + 1))) := by
  rw [drop_cons s k h]; rfl
theorem rn_step (s : ByteArray) (k : Nat) (h : k < s.size) (d : Int) : rn (s.data.toList.drop k) d = (decide (0 ≤ d + dl s[k]) && decide (d + dl s[k] ≤ 12) && rn (s.data.toList.drop (k + 1)) (d + dl s[k])) := by
  rw [drop_cons s k h]; rfl
theorem drop_end (s : ByteArray) (k : Nat) (h : s.size ≤ k) : s.data.toList.drop k = [] := by
  apply List.drop_of_length_le; simpa using h

/-- The depths of all places from a depth on. -/
def dps : List UInt8 → Int → List Int
  | [], d => [d]
  | c :: l, d => d :: dps l (d + dl c)
theorem dps_step (s : ByteArray) (k : Nat) (h : k < s.size) (d : Int) : dps (s.data.toList.drop k) d = d :: dps (s.data.toList.drop (k + 1)) (d + dl s[k]) := by
  rw [drop_cons s k h]; rfl
theorem dps_end (s : ByteArray) (k : Nat) (h : s.size ≤ k) (d : Int) : dps (s.data.toList.drop k) d = [d] := by
  rw [drop_end s k h]; rfl
theorem dps_len : ∀ (l : List UInt8) (d : Int), (dps l d).length = l.length + 1
  | [], _ => rfl
  | c :: l, d => by rw [dps, List.length_cons, dps_len l, List.length_cons]

/-- The depth of a place. -/
def dep (l : List UInt8) (k : Nat) : Int := (dps l 0).getD k 0
theorem dps_drop_step (s : ByteArray) (k : Nat) (h : k < s.size) (x : Int) (hx : (dps s.data.toList 0).drop k = dps (s.data.toList.drop k) x) :
    (dps s.data.toList 0).drop (k + 1) = dps (s.data.toList.drop (k + 1)) (x + dl s[k]) := by
  have e : (dps s.data.toList 0).drop (k + 1) = ((dps s.data.toList 0).drop k).drop 1 := by rw [List.drop_drop]
  rw [e, hx, dps_step s k h x]; rfl
theorem dps_head (l : List UInt8) (x : Int) : ∃ r, dps l x = x :: r := by
  cases l with
  | nil => exact ⟨[], rfl⟩
  | cons c l => exact ⟨_, rfl⟩
theorem dep_of (l : List UInt8) (k : Nat) (x : Int) (hx : (dps l 0).drop k = dps (l.drop k) x) : dep l k = x := by
  obtain ⟨r, hr⟩ := dps_head (l.drop k) x
  rw [hr] at hx
  unfold dep
  have h : ((dps l 0).drop k)[0]? = some x := by rw [hx]; rfl
  rw [List.getElem?_drop] at h
  rw [List.getD_eq_getElem?_getD]
  simp at h
  rw [h]; rfl
def depAt (l : List UInt8) (at_ : Int) : Int × Bool := if doc l = true ∧ 0 ≤ at_ ∧ at_ ≤ l.length then (dep l at_.toNat, true) else (0, false)
theorem depAt_yes {l : List UInt8} {a : Int} (h : doc l = true) (h0 : 0 ≤ a) (h1 : a ≤ l.length) : depAt l a = (dep l a.toNat, true) := if_pos ⟨h, h0, h1⟩
theorem depAt_no {l : List UInt8} {a : Int} (h : ¬ (doc l = true ∧ 0 ≤ a ∧ a ≤ l.length)) : depAt l a = (0, false) := if_neg h
end Go.Proofs.YtmjehpigfkobeabDoor.Doc1
