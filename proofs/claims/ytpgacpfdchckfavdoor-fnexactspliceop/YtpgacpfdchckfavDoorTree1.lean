/- The plain mathematics of chapter 2: nodes, what a text tells of its tree byte by byte, and how a tree is laid out. Nothing of the program stands here. -/
import Derived.Test.YtpgacpfdchckfavDoorPlain2
namespace Go.Proofs.YtpgacpfdchckfavDoor.Doc1

/-- Bytes as a string. -/
def ba (l : List UInt8) : ByteArray := ⟨l.toArray⟩
theorem ba_list (l : List UInt8) : (ba l).data.toList = l := by simp [ba]
theorem ba_of (s : ByteArray) : ba s.data.toList = s := by simp [ba]
theorem ba_size (l : List UInt8) : (ba l).size = l.length := by simp [ba, ByteArray.size]
theorem ba_inj {a b : List UInt8} (h : ba a = ba b) : a = b := by rw [← ba_list a, h, ba_list]
theorem ba_eq {s t : ByteArray} (h : s.data.toList = t.data.toList) : s = t := by rw [← ba_of s, h, ba_of]

/-- A node. -/
structure Nd where
  name : ByteArray
  text : ByteArray
  up : Int
  deriving DecidableEq

/-- What is known of a tree behind some bytes of its text: the nodes that are closed, those that are open (the innermost first), a run that may go on. -/
structure PS where
  l : List Nd
  st : List Nat
  r : List UInt8

def PS.up (p : PS) : Int := ((p.st.headD 0 : Nat) : Int)
def PS.out (p : PS) : List Nd := if p.r = [] then p.l else p.l ++ [⟨ba [], ba p.r, p.up⟩]
def pst (p : PS) (c : UInt8) : PS :=
  if opB c then ⟨p.out ++ [⟨ba [c], ba [], p.up⟩], p.out.length :: p.st, []⟩
  else if enB c then ⟨p.out, p.st.tail, []⟩
  else ⟨p.l, p.st, p.r ++ [c]⟩
def feed (p : PS) (s : List UInt8) : PS := s.foldl pst p
def pin : PS := ⟨[⟨ba [], ba [], -1⟩], [0], []⟩
/-- The nodes of a text. -/
def tree (s : List UInt8) : List Nd := (feed pin s).out

theorem feed_nil (p : PS) : feed p [] = p := rfl
theorem feed_cons (p : PS) (c : UInt8) (s : List UInt8) : feed p (c :: s) = feed (pst p c) s := rfl
theorem feed_app (p : PS) (a b : List UInt8) : feed p (a ++ b) = feed (feed p a) b := List.foldl_append
theorem feed_snoc (p : PS) (a : List UInt8) (c : UInt8) : feed p (a ++ [c]) = pst (feed p a) c := by rw [feed_app]; rfl

theorem pst_op (p : PS) {c : UInt8} (h : opB c = true) : pst p c = ⟨p.out ++ [⟨ba [c], ba [], p.up⟩], p.out.length :: p.st, []⟩ := by simp [pst, h]
theorem op_of_en {c : UInt8} (h : enB c = true) : opB c = false := by have := (sep c).2.1; rw [h] at this; simpa using this
theorem op_of_pl {c : UInt8} (h : plB c = true) : opB c = false := by have := (sep c).1; rw [h] at this; simpa using this
theorem en_of_pl {c : UInt8} (h : plB c = true) : enB c = false := by have := (sep c).2.2; rw [h] at this; simpa using this
theorem pst_en (p : PS) {c : UInt8} (h : enB c = true) : pst p c = ⟨p.out, p.st.tail, []⟩ := by simp [pst, h, op_of_en h]
theorem pst_pl (p : PS) {c : UInt8} (h : plB c = true) : pst p c = ⟨p.l, p.st, p.r ++ [c]⟩ := by simp [pst, op_of_pl h, en_of_pl h]
theorem out_nil (p : PS) (h : p.r = []) : p.out = p.l := by simp [PS.out, h]
theorem feed_run (p : PS) (s : List UInt8) (h : s.all plB = true) : feed p s = ⟨p.l, p.st, p.r ++ s⟩ := by
  induction s generalizing p with
  | nil => simp [feed]
  | cons c s ih =>
    simp only [List.all_cons, Bool.and_eq_true] at h
    rw [feed_cons, ih _ h.2, pst_pl p h.1]; simp

/-- Only the nodes, those that are open and whether a run may go on matter. -/
theorem pst_st (p : PS) (c : UInt8) : (pst p c).st = if opB c then p.out.length :: p.st else if enB c then p.st.tail else p.st := by
  unfold pst; split <;> (try split) <;> rfl

theorem feed_st : ∀ (s : List UInt8) (p : PS) (d : Nat), rn s (d : Int) = true → (feed p s).st = p.st.drop d
  | [], p, d, h => by
    have : d = 0 := by simp [rn] at h; omega
    subst this; rfl
  | c :: s, p, d, h => by
    rw [feed_cons]
    unfold rn at h
    simp only [Bool.and_eq_true, decide_eq_true_eq] at h
    by_cases ho : opB c = true
    · have e : dl c = 1 := by simp [dl, ho]
      rw [e] at h
      have := feed_st s (pst p c) (d + 1) h.2
      rw [this, pst_st, if_pos ho]; rfl
    · by_cases hn : enB c = true
      · have e : dl c = -1 := by simp [dl, ho, hn]
        rw [e] at h
        have hd : 1 ≤ d := by omega
        have := feed_st s (pst p c) (d - 1) (by rw [show ((d - 1 : Nat) : Int) = (d : Int) + -1 by omega]; exact h.2)
        rw [this, pst_st, if_neg ho, if_pos hn]
        cases hst : p.st with
        | nil => simp
        | cons a b =>
          show b.drop (d - 1) = _
          rw [show d = (d - 1) + 1 by omega]; rfl
      · have e : dl c = 0 := by simp [dl, ho, hn]
        rw [e, Int.add_zero] at h
        have := feed_st s (pst p c) d h.2
        rw [this, pst_st, if_neg ho, if_neg hn]
theorem feed_st0 (s : List UInt8) (p : PS) (h : rn s 0 = true) : (feed p s).st = p.st := feed_st s p 0 h

/-- Nodes that are there stay. -/
theorem pst_pre (p : PS) (c : UInt8) : p.l <+: (pst p c).l ∧ (opB c = true ∨ enB c = true → p.out <+: (pst p c).l) := by
  have h0 : p.l <+: p.out := by unfold PS.out; split; exact List.prefix_rfl; exact List.prefix_append _ _
  unfold pst
  split
  · exact ⟨h0.trans (List.prefix_append _ _), fun _ => List.prefix_append _ _⟩
  · split
    · exact ⟨h0, fun _ => List.prefix_rfl⟩
    · rename_i h1 h2
      exact ⟨List.prefix_rfl, fun h => by rcases h with h | h <;> contradiction⟩
theorem l_out (p : PS) : p.l <+: p.out := by unfold PS.out; split; exact List.prefix_rfl; exact List.prefix_append _ _
theorem feed_pre (s : List UInt8) (p : PS) : p.l <+: (feed p s).l := by
  induction s generalizing p with
  | nil => exact List.prefix_rfl
  | cons c s ih => rw [feed_cons]; exact (pst_pre p c).1.trans (ih _)
theorem feed_pre_out (s : List UInt8) (p : PS) : p.l <+: (feed p s).out := (feed_pre s p).trans (l_out _)
theorem pst_len (p : PS) (c : UInt8) : (pst p c).out.length ≤ p.out.length + 1 := by
  unfold pst
  split
  · simp [PS.out]
  · split
    · simp [PS.out]
    · simp only [PS.out]
      split
      · rename_i h; simp at h
      · split <;> simp
theorem feed_len (s : List UInt8) (p : PS) : (feed p s).out.length ≤ p.out.length + s.length := by
  induction s generalizing p with
  | nil => simp [feed]
  | cons c s ih => rw [feed_cons]; have h1 := ih (pst p c); have h2 := pst_len p c; simp; omega
theorem tree_len (s : List UInt8) : (tree s).length ≤ s.length + 1 := by have := feed_len s pin; simp [tree]; simp [pin, PS.out] at this; simpa [pin, PS.out, Nat.add_comm] using this

/-- The open nodes are parts of one another, the innermost first. -/
def Chain (l : List Nd) : List Nat → Prop
  | [] => False
  | [o] => o = 0 ∧ 0 < l.length
  | o :: o' :: r => (∃ n, l[o]? = some n ∧ n.up = (o' : Int)) ∧ o' < o ∧ Chain l (o' :: r)
theorem Chain.mono {l l' : List Nd} (h : l <+: l') : ∀ {st : List Nat}, Chain l st → Chain l' st
  | [], hc => hc
  | [o], hc => ⟨hc.1, Nat.lt_of_lt_of_le hc.2 h.length_le⟩
  | o :: o' :: r, hc => by
    obtain ⟨⟨n, hn, hu⟩, hlt, hr⟩ := hc
    exact ⟨⟨n, by obtain ⟨t, rfl⟩ := h; rw [List.getElem?_append_left (List.getElem?_eq_some_iff.1 hn).1]; exact hn, hu⟩, hlt, Chain.mono h hr⟩
theorem Chain.lt {l : List Nd} : ∀ {st : List Nat}, Chain l st → ∀ o ∈ st, o < l.length
  | [], hc, _, _ => hc.elim
  | [o], hc, x, hx => by simp at hx; subst hx; have := hc.1; have := hc.2; omega
  | o :: o' :: r, hc, x, hx => by
    obtain ⟨⟨n, hn, _⟩, _, hr⟩ := hc
    rcases List.mem_cons.1 hx with rfl | hx
    · exact (List.getElem?_eq_some_iff.1 hn).1
    · exact Chain.lt hr x hx
theorem Chain.tail {l : List Nd} {o o' : Nat} {r : List Nat} (h : Chain l (o :: o' :: r)) : Chain l (o' :: r) := h.2.2
theorem pst_chain (p : PS) (c : UInt8) (h : Chain p.l p.st) (hd : 2 ≤ p.st.length ∨ enB c = false) : Chain (pst p c).l (pst p c).st := by
  have hp : Chain p.out p.st := h.mono (l_out p)
  unfold pst
  split
  · cases hst : p.st with
    | nil => rw [hst] at h; exact h.elim
    | cons o r =>
      rw [hst] at hp
      refine ⟨⟨⟨ba [c], ba [], p.up⟩, by simp, by simp [PS.up, hst]⟩, hp.lt o (by simp), hp.mono (List.prefix_append _ _)⟩
  · split
    · rename_i h1 h2
      rw [h2] at hd
      simp at hd
      match hst : p.st, hp, hd with
      | o :: o' :: r, hp, _ => exact hp.tail
    · exact h

/-- Behind the bytes of a document up to a place. -/
theorem feed_ok : ∀ (b : List UInt8) (p : PS) (k : Nat), p.st.length = k + 1 → Chain p.l p.st → (∀ i, i ≤ b.length → 0 ≤ (k : Int) + ((b.map dl).take i).sum) →
    Chain (feed p b).l (feed p b).st ∧ ((feed p b).st.length : Int) = k + (b.map dl).sum + 1
  | [], p, k, hk, hc, _ => ⟨hc, by simp [feed, hk]⟩
  | c :: b, p, k, hk, hc, hd => by
    rw [feed_cons]
    have h1 := hd 1 (by simp)
    simp at h1
    have hd2 : 2 ≤ p.st.length ∨ enB c = false := by
      cases he : enB c with
      | false => exact Or.inr rfl
      | true => left; have : dl c = -1 := by simp [dl, op_of_en he, he]
                omega
    have hc' := pst_chain p c hc hd2
    have hl : ((pst p c).st.length : Int) = k + dl c + 1 := by
      rw [pst_st]
      by_cases ho : opB c = true
      · rw [if_pos ho]; simp [dl, ho, hk]
      · rw [if_neg ho]
        by_cases he : enB c = true
        · rw [if_pos he]; simp [dl, ho, he, hk]; omega
        · rw [if_neg he]; simp [dl, ho, he, hk]
    have ih := feed_ok b (pst p c) ((k : Int) + dl c).toNat (by omega) hc' (fun i hi => by
      have := hd (i + 1) (by simp; omega)
      simp at this; omega)
    refine ⟨ih.1, ?_⟩
    rw [ih.2]; simp; omega
end Go.Proofs.YtpgacpfdchckfavDoor.Doc1
