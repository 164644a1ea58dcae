/- Words, lines and how wide they are; lines that are broken greedily: the mathematics of chapter 13. -/
import Derived.Test.YtgacajnljplmiabDoorPlain
set_option linter.unusedVariables false
namespace Go.Proofs.YtgacajnljplmiabDoor.Doc1

/-- A byte of a word: plain, and no blank. -/
def wdB (c : UInt8) : Bool := plB c && !(c.toNat == 32)
def wrd (s : ByteArray) : Bool := s.data.toList.all wdB && decide (1 ≤ s.size ∧ s.size ≤ 80)
/-- Words and a width are as said. -/
def said (l : List ByteArray) (w : Int) : Bool := (l.all fun s => wrd s && decide ((s.size : Int) ≤ w)) && decide (l.length ≤ 60) && decide (1 ≤ w ∧ w ≤ 80)
def blB : ByteArray := ⟨#[32]⟩
/-- Words with one blank between. -/
def jn : List ByteArray → ByteArray
  | [] => ⟨#[]⟩
  | a :: r => r.foldl (fun s b => s ++ blB ++ b) a
theorem jn_snoc (l : List ByteArray) (b : ByteArray) (h : l ≠ []) : jn (l ++ [b]) = jn l ++ blB ++ b := by
  cases l with
  | nil => exact absurd rfl h
  | cons a r => simp [jn]
theorem jn_one (b : ByteArray) : jn [b] = b := rfl
def tt (l : List ByteArray) : Nat := (l.map ByteArray.size).sum
theorem tt_snoc (l : List ByteArray) (b : ByteArray) : tt (l ++ [b]) = tt l + b.size := by simp [tt]
theorem tt_app (a b : List ByteArray) : tt (a ++ b) = tt a + tt b := by simp [tt]
theorem jn_size (l : List ByteArray) : (jn l).size = tt l + (l.length - 1) := by
  cases l with
  | nil => rfl
  | cons a r =>
    have : ∀ (r : List ByteArray) (s : ByteArray), (r.foldl (fun s b => s ++ blB ++ b) s).size = s.size + tt r + r.length := by
      intro r
      induction r with
      | nil => intro s; simp [tt]
      | cons x r ih =>
        intro s
        rw [List.foldl_cons, ih, ByteArray.size_append, ByteArray.size_append]
        have : tt (x :: r) = x.size + tt r := by simp [tt]
        have : blB.size = 1 := rfl
        simp only [List.length_cons]
        omega
    have h := this r a
    have e : tt (a :: r) = a.size + tt r := by simp [tt]
    show (r.foldl (fun s b => s ++ blB ++ b) a).size = _
    rw [h, e, List.length_cons]
    omega
/-- The words from a to b. -/
def sl (l : List ByteArray) (a b : Nat) : List ByteArray := (l.drop a).take (b - a)
theorem sl_len {l : List ByteArray} {a b : Nat} (h : b ≤ l.length) : (sl l a b).length = b - a := by unfold sl; rw [List.length_take, List.length_drop]; omega
theorem sl_snoc {l : List ByteArray} {a b : Nat} (h : a ≤ b) (hb : b < l.length) : sl l a (b + 1) = sl l a b ++ [l[b]] := by
  unfold sl
  rw [show b + 1 - a = (b - a) + 1 by omega, List.take_succ_eq_append_getElem (by rw [List.length_drop]; omega)]
  congr 2
  rw [List.getElem_drop]
  congr 1
  omega
theorem sl_all (l : List ByteArray) (a : Nat) : sl l a l.length = l.drop a := by unfold sl; rw [List.take_of_length_le (by rw [List.length_drop]; omega)]
theorem sl_0 (l : List ByteArray) (b : Nat) : sl l 0 b = l.take b := by unfold sl; simp
def wdS (l : List ByteArray) (a b : Nat) : Nat := (jn (sl l a b)).size
theorem wdS_one {l : List ByteArray} {a : Nat} (h : a < l.length) : wdS l a (a + 1) = l[a].size := by
  unfold wdS
  rw [sl_snoc (Nat.le_refl _) h, show sl l a a = [] by unfold sl; simp]
  rfl
theorem wdS_succ {l : List ByteArray} {a b : Nat} (h : a < b) (hb : b < l.length) : wdS l a (b + 1) = wdS l a b + 1 + l[b].size := by
  unfold wdS
  rw [sl_snoc (by omega) hb, jn_size, jn_size, tt_snoc, List.length_append, sl_len (by omega)]
  simp only [List.length_singleton]
  omega
theorem tt_all {l : List ByteArray} {M : Nat} (h : ∀ s ∈ l, s.size ≤ M) : tt l ≤ l.length * M := by
  induction l with
  | nil => simp [tt]
  | cons a l ih =>
    have e : tt (a :: l) = a.size + tt l := by simp [tt]
    have h1 := h a (by simp)
    have h2 := ih (fun s hs => h s (by simp [hs]))
    rw [e, List.length_cons, Nat.succ_mul]
    omega
theorem wrd_size {s : ByteArray} (h : wrd s = true) : 1 ≤ s.size ∧ s.size ≤ 80 := by
  unfold wrd at h
  simp only [Bool.and_eq_true, decide_eq_true_eq] at h
  exact h.2
structure Sd (l : List ByteArray) (w : Int) : Prop where
  wr : ∀ s ∈ l, wrd s = true
  fit : ∀ s ∈ l, (s.size : Int) ≤ w
  len : l.length ≤ 60
  lo : 1 ≤ w
  hi : w ≤ 80
theorem said_iff {l : List ByteArray} {w : Int} : said l w = true ↔ Sd l w := by
  unfold said
  simp only [Bool.and_eq_true, List.all_eq_true, decide_eq_true_eq]
  exact ⟨fun ⟨⟨a, b⟩, c⟩ => ⟨fun s hs => (a s hs).1, fun s hs => (a s hs).2, b, c.1, c.2⟩, fun h => ⟨⟨fun s hs => ⟨h.wr s hs, h.fit s hs⟩, h.len⟩, h.lo, h.hi⟩⟩
theorem Sd.tt_le {l : List ByteArray} {w : Int} (h : Sd l w) : tt l ≤ 4800 := by
  have h1 := tt_all (M := 80) (fun s hs => (wrd_size (h.wr s hs)).2)
  have h2 := h.len
  have : l.length * 80 ≤ 60 * 80 := Nat.mul_le_mul_right _ h2
  omega
theorem tt_sub {l m : List ByteArray} (h : l.Sublist m) : tt l ≤ tt m := by
  unfold tt
  induction h with
  | slnil => simp
  | cons a _ ih => simp; omega
  | cons_cons a _ ih => simp; omega
theorem tt_sl (l : List ByteArray) (a b : Nat) : tt (sl l a b) ≤ tt l := tt_sub ((List.take_sublist _ _).trans (List.drop_sublist _ _))
theorem mem_sl {l : List ByteArray} {a b : Nat} {s : ByteArray} (h : s ∈ sl l a b) : s ∈ l := List.mem_of_mem_drop (List.mem_of_mem_take h)
theorem wdS_le {l : List ByteArray} {a b : Nat} (ht : tt l ≤ 4800) (hl : l.length ≤ 60) : wdS l a b ≤ 4860 := by
  unfold wdS
  rw [jn_size]
  have h1 := tt_sl l a b
  have h2 : (sl l a b).length ≤ l.length := ((List.take_sublist _ _).trans (List.drop_sublist _ _)).length_le
  omega

/-- How far a line that begins at a goes, if it goes to e. -/
def gx (l : List ByteArray) (w : Int) (a e : Nat) : Nat := if h : e < l.length ∧ (wdS l a (e + 1) : Int) ≤ w then gx l w a (e + 1) else e
termination_by l.length - e
theorem gx_yes {l : List ByteArray} {w : Int} {a e : Nat} (h : e < l.length) (h2 : (wdS l a (e + 1) : Int) ≤ w) : gx l w a e = gx l w a (e + 1) := by rw [gx, dif_pos ⟨h, h2⟩]
theorem gx_no {l : List ByteArray} {w : Int} {a e : Nat} (h : ¬ (e < l.length ∧ (wdS l a (e + 1) : Int) ≤ w)) : gx l w a e = e := by rw [gx, dif_neg h]
theorem gx_bd (l : List ByteArray) (w : Int) (a : Nat) (n : Nat) : ∀ e, l.length - e = n → e ≤ l.length → e ≤ gx l w a e ∧ gx l w a e ≤ l.length := by
  induction n with
  | zero => intro e h1 h2; rw [gx_no (by omega)]; omega
  | succ n ih =>
    intro e h1 h2
    by_cases h : e < l.length ∧ (wdS l a (e + 1) : Int) ≤ w
    · rw [gx_yes h.1 h.2]
      have := ih (e + 1) (by omega) (by omega)
      omega
    · rw [gx_no h]; omega
/-- Where greedy lines end, from a on. -/
def gE (l : List ByteArray) (w : Int) (a : Nat) : List Nat := if h : a < l.length then gx l w a (a + 1) :: gE l w (gx l w a (a + 1)) else []
termination_by l.length - a
decreasing_by have := gx_bd l w a _ (a + 1) rfl (by omega); omega
theorem gE_on {l : List ByteArray} {w : Int} {a : Nat} (h : a < l.length) : gE l w a = gx l w a (a + 1) :: gE l w (gx l w a (a + 1)) := by rw [gE, dif_pos h]
theorem gE_end {l : List ByteArray} {w : Int} {a : Nat} (h : ¬ a < l.length) : gE l w a = [] := by rw [gE, dif_neg h]
/-- Lines by where they end. -/
def lnE (l : List ByteArray) : Nat → List Nat → List ByteArray
  | _, [] => []
  | a, e :: r => jn (sl l a e) :: lnE l e r
theorem lnE_app (l : List ByteArray) : ∀ (c d : List Nat) (a : Nat), lnE l a (c ++ d) = lnE l a c ++ lnE l (c.getLastD a) d
  | [], d, a => rfl
  | e :: c, d, a => by
    rw [List.cons_append, lnE, lnE, lnE_app l c d e, List.cons_append]
    congr 2
    cases c <;> simp [List.getLastD]
theorem lnE_len (l : List ByteArray) : ∀ (c : List Nat) (a : Nat), (lnE l a c).length = c.length
  | [], a => rfl
  | e :: c, a => by rw [lnE, List.length_cons, List.length_cons, lnE_len l c e]
def grL (l : List ByteArray) (w : Int) : List ByteArray := lnE l 0 (gE l w 0)
/-- Rising cuts between a and n. -/
def rs (n : Nat) : Nat → List Nat → Prop
  | _, [] => True
  | a, c :: r => a < c ∧ c < n ∧ rs n c r
theorem rs_app (n : Nat) : ∀ (c : List Nat) (a e : Nat), rs n a c → c.getLastD a < e → e < n → rs n a (c ++ [e])
  | [], a, e, _, h, h2 => ⟨h, h2, trivial⟩
  | x :: c, a, e, ⟨h1, h2, h3⟩, h, h4 => ⟨h1, h2, rs_app n c x e h3 (by cases c <;> simpa [List.getLastD] using h) h4⟩
theorem rs_last {n : Nat} : ∀ {c : List Nat} {a : Nat}, rs n a c → a ≤ c.getLastD a ∧ (c ≠ [] → c.getLastD a < n)
  | [], a, _ => ⟨Nat.le_refl _, fun h => absurd rfl h⟩
  | x :: c, a, ⟨h1, h2, h3⟩ => by
    have := rs_last h3
    have e : (x :: c).getLastD a = c.getLastD x := by cases c <;> simp [List.getLastD]
    rw [e]
    refine ⟨by omega, fun _ => ?_⟩
    cases c with
    | nil => exact h2
    | cons y c => exact this.2 (by simp)
theorem rs_len {n : Nat} : ∀ {c : List Nat} {a : Nat}, rs n a c → a < n → c.length + a < n
  | [], a, _, h => by simpa using h
  | x :: c, a, ⟨h1, h2, h3⟩, h => by have := rs_len h3 h2; simp only [List.length_cons]; omega
theorem rs_at {n : Nat} : ∀ {c : List Nat} {a : Nat}, rs n a c → ∀ k (h : k < c.length), (c.take k).getLastD a < c[k] ∧ c[k] < n
  | x :: c, a, ⟨h1, h2, h3⟩, 0, _ => ⟨h1, h2⟩
  | x :: c, a, ⟨h1, h2, h3⟩, k + 1, h => by
    have := rs_at h3 k (by simpa using h)
    rw [List.take_succ_cons, List.getElem_cons_succ, show (x :: c.take k).getLastD a = (c.take k).getLastD x by cases (c.take k) <;> simp [List.getLastD]]
    exact this
/-- What the last line adds to what cuts tell. -/
def cutE (l : List ByteArray) (c : List Nat) : List Nat := c ++ (if l.length = 0 then [] else [l.length])
/-- Cuts that are as said. -/
def vc (n : Int) : Int → List Int → Bool
  | _, [] => true
  | a, c :: r => decide (a < c ∧ c < n) && vc n c r
theorem vc_at {n a : Int} {cs : List Int} {k : Nat} (h : k < cs.length) : vc n a (cs.drop k) = (decide (a < cs[k] ∧ cs[k] < n) && vc n cs[k] (cs.drop (k + 1))) := by
  rw [List.drop_eq_getElem_cons h]
  rfl
theorem vc_rs {n : Nat} : ∀ {cs : List Int} {a : Nat}, vc n a cs = true → rs n a (cs.map Int.toNat) ∧ ∀ c ∈ cs, 0 ≤ c
  | [], a, _ => ⟨trivial, fun _ h => by cases h⟩
  | c :: r, a, h => by
    unfold vc at h
    simp only [Bool.and_eq_true, decide_eq_true_eq] at h
    obtain ⟨⟨h1, h2⟩, h3⟩ := h
    rw [show c = ((c.toNat : Nat) : Int) by omega] at h3
    have := vc_rs h3
    refine ⟨⟨by omega, by omega, this.1⟩, fun x hx => ?_⟩
    rcases List.mem_cons.1 hx with rfl | hx
    · omega
    · exact this.2 x hx
/-- Lines that all fit. -/
def fits (L : List ByteArray) (w : Int) : Bool := L.all fun s => decide ((s.size : Int) ≤ w)
def brL (l : List ByteArray) (cs : List Int) (w : Int) : List ByteArray × Bool :=
  if said l w = true ∧ vc l.length 0 cs = true ∧ fits (lnE l 0 (cutE l (cs.map Int.toNat))) w = true then (lnE l 0 (cutE l (cs.map Int.toNat)), true) else ([], false)
def grT (l : List ByteArray) (w : Int) : List ByteArray × Bool := if said l w = true then (grL l w, true) else ([], false)
/-- The least width from w on. -/
def lwx (l : List ByteArray) (m : Int) (w : Nat) : Int × Bool := if w ≤ 80 then (if said l w = true ∧ ((grL l w).length : Int) ≤ m then ((w : Int), true) else lwx l m (w + 1)) else (0, false)
termination_by 81 - w
def lwT (l : List ByteArray) (m : Int) : Int × Bool := if said l 80 = true ∧ 1 ≤ m ∧ m ≤ 60 then (if l.length = 0 then (0, true) else lwx l m 1) else (0, false)
/-- The words are as said, the width aside. -/
def saidW (l : List ByteArray) : Bool := l.all wrd && decide (l.length ≤ 60)
theorem said_80 (l : List ByteArray) : said l 80 = saidW l := by
  rw [Bool.eq_iff_iff, said_iff]
  unfold saidW
  simp only [Bool.and_eq_true, List.all_eq_true, decide_eq_true_eq]
  exact ⟨fun h => ⟨h.wr, h.len⟩, fun h => ⟨h.1, fun s hs => by have := (wrd_size (h.1 s hs)).2; omega, h.2, by omega, by omega⟩⟩
/-- The greedy cuts go on. -/
theorem gE_last {l : List ByteArray} {w : Int} {a : Nat} (h : a < l.length) (hx : gx l w a (a + 1) = l.length) : gE l w a = [l.length] := by
  rw [gE_on h, hx, gE_end (by omega)]
end Go.Proofs.YtgacajnljplmiabDoor.Doc1
