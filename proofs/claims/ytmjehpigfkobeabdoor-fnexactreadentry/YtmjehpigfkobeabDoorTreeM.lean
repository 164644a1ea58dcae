/- The plain mathematics of chapter 2: nodes, what a text tells of its tree byte by byte, and how a tree is laid out. Nothing of the program stands here. The plain mathematics of chapter 2, on: how a tree is laid out into a text; that just the trees of documents can be. The plain mathematics of chapter 2, on: what is known at a place of a document. The plain mathematics of chapter 2, on: the tree of a document can be laid out, and its text is the document. The plain mathematics of chapter 2, on: what each node takes of the text. The plain mathematics of chapter 2, on: the text of a node, part by part. The plain mathematics of chapter 2, on: good trees are those that can be laid out; where a node begins. The plain mathematics of chapter 2, on: what is cut out of a document leaves a document. -/
import Derived.Test.YtmjehpigfkobeabDoorPlain2
namespace Go.Proofs.YtmjehpigfkobeabDoor.Doc1

/-- Bytes as a string. -/
def ba (l : List UInt8) : ByteArray := ⟨l.toArray⟩
theorem ba_list (l : List UInt8) : (ba l).data.toList = l := by simp [ba]
theorem ba_of (s : ByteArray) : ba s.data.toList = s := by simp [ba]
theorem ba_size (l : List UInt8) : (ba l).size = l.length := by simp [ba, ByteArray.size]
theorem ba_inj {a b : List UInt8} (h : ba a = ba b) : a = b := by rw [← ba_list a, h, ba_list]
theorem ba_eq {s t : ByteArray} (h : s.data.toList = t.data.toList) : s = t := by rw [← ba_of s, h, ba_of]

/-- A node. -/
structure Nd where
  name : ByteArray
  text : ByteArray
  up : Int
  deriving DecidableEq

/-- What is known of a tree behind some bytes of its text: the nodes that are closed, those that are open (the innermost first), a run that may go on. -/
structure PS where
  l : List Nd
  st : List Nat
  r : List UInt8

def PS.up (p : PS) : Int := ((p.st.headD 0 : Nat) : Int)
def PS.out (p : PS) : List Nd := if p.r = [] then p.l else p.l ++ [⟨ba [], ba p.r, p.up⟩]
def pst (p : PS) (c : UInt8) : PS :=
  if opB c then ⟨p.out ++ [⟨ba [c], ba [], p.up⟩], p.out.length :: p.st, []⟩
  else if enB c then ⟨p.out, p.st.tail, []⟩
  else ⟨p.l, p.st, p.r ++ [c]⟩
def feed (p : PS) (s : List UInt8) : PS := s.foldl pst p
def pin : PS := ⟨[⟨ba [], ba [], -1⟩], [0], []⟩
/-- The nodes of a text. -/
def tree (s : List UInt8) : List Nd := (feed pin s).out

theorem feed_nil (p : PS) : feed p [] = p := rfl
theorem feed_cons (p : PS) (c : UInt8) (s : List UInt8) : feed p (c :: s) = feed (pst p c) s := rfl
theorem feed_app (p : PS) (a b : List UInt8) : feed p (a ++ b) = feed (feed p a) b := List.foldl_append
theorem feed_snoc (p : PS) (a : List UInt8) (c : UInt8) : feed p (a ++ [c]) = pst (feed p a) c := by rw [feed_app]; rfl

theorem pst_op (p : PS) {c : UInt8} (h : opB c = true) : pst p c = ⟨p.out ++ [⟨ba [c], ba [], p.up⟩], p.out.length :: p.st, []⟩ := by simp [pst, h]
theorem op_of_en {c : UInt8} (h : enB c = true) : opB c = false := by have := (sep c).2.1; rw [h] at this; simpa using this
theorem op_of_pl {c : UInt8} (h : plB c = true) : opB c = false := by have := (sep c).1; rw [h] at this; simpa using this
theorem en_of_pl {c : UInt8} (h : plB c = true) : enB c = false := by have := (sep c).2.2; rw [h] at this; simpa using this
theorem pst_en (p : PS) {c : UInt8} (h : enB c = true) : pst p c = ⟨p.out, p.st.tail, []⟩ := by simp [pst, h, op_of_en h]
theorem pst_pl (p : PS) {c : UInt8} (h : plB c = true) : pst p c = ⟨p.l, p.st, p.r ++ [c]⟩ := by simp [pst, op_of_pl h, en_of_pl h]
theorem out_nil (p : PS) (h : p.r = []) : p.out = p.l := by simp [PS.out, h]
theorem feed_run (p : PS) (s : List UInt8) (h : s.all plB = true) : feed p s = ⟨p.l, p.st, p.r ++ s⟩ := by
  induction s generalizing p with
  | nil => simp [feed]
  | cons c s ih =>
    simp only [List.all_cons, Bool.and_eq_true] at h
    rw [feed_cons, ih _ h.2, pst_pl p h.1]; simp

/-- Only the nodes, those that are open and whether a run may go on matter. -/
theorem pst_st (p : PS) (c : UInt8) : (pst p c).st = if opB c then p.out.length :: p.st else if enB c then p.st.tail else p.st := by
  unfold pst; split <;> (try split) <;> rfl

theorem feed_st : ∀ (s : List UInt8) (p : PS) (d : Nat), rn s (d : Int) = true → (feed p s).st = p.st.drop d
  | [], p, d, h => by
    have : d = 0 := by simp [rn] at h; omega
    subst this; rfl
  | c :: s, p, d, h => by
    rw [feed_cons]
    unfold rn at h
    simp only [Bool.and_eq_true, decide_eq_true_eq] at h
    by_cases ho : opB c = true
    · have e : dl c = 1 := by simp [dl, ho]
      rw [e] at h
      have := feed_st s (pst p c) (d + 1) h.2
      rw [this, pst_st, if_pos ho]; rfl
    · by_cases hn : enB c = true
      · have e : dl c = -1 := by simp [dl, ho, hn]
        rw [e] at h
        have hd : 1 ≤ d := by omega
        have := feed_st s (pst p c) (d - 1) (by rw [show ((d - 1 : Nat) : Int) = (d : Int) + -1 by omega]; exact h.2)
        rw [this, pst_st, if_neg ho, if_pos hn]
        cases hst : p.st with
        | nil => simp
        | cons a b =>
          show b.drop (d - 1) = _
          rw [show d = (d - 1) + 1 by omega]; rfl
      · have e : dl c = 0 := by simp [dl, ho, hn]
        rw [e, Int.add_zero] at h
        have := feed_st s (pst p c) d h.2
        rw [this, pst_st, if_neg ho, if_neg hn]
theorem feed_st0 (s : List UInt8) (p : PS) (h : rn s 0 = true) : (feed p s).st = p.st := feed_st s p 0 h

/-- Nodes that are there stay. -/
theorem pst_pre (p : PS) (c : UInt8) : p.l <+: (pst p c).l ∧ (opB c = true ∨ enB c = true → p.out <+: (pst p c).l) := by
  have h0 : p.l <+: p.out := by unfold PS.out; split; exact List.prefix_rfl; exact List.prefix_append _ _
  unfold pst
  split
  · exact ⟨h0.trans (List.prefix_append _ _), fun _ => List.prefix_append _ _⟩
  · split
    · exact ⟨h0, fun _ => List.prefix_rfl⟩
    · rename_i h1 h2
      exact ⟨List.prefix_rfl, fun h => by rcases h with h | h <;> contradiction⟩
theorem l_out (p : PS) : p.l <+: p.out := by unfold PS.out; split; exact List.prefix_rfl; exact List.prefix_append _ _
theorem feed_pre (s : List UInt8) (p : PS) : p.l <+: (feed p s).l := by
  induction s generalizing p with
  | nil => exact List.prefix_rfl
  | cons c s ih => rw [feed_cons]; exact (pst_pre p c).1.trans (ih _)
theorem feed_pre_out (s : List UInt8) (p : PS) : p.l <+: (feed p s).out := (feed_pre s p).trans (l_out _)
theorem pst_len (p : PS) (c : UInt8) : (pst p c).out.length ≤ p.out.length + 1 := by
  unfold pst
  split
  · simp [PS.out]
  · split
    · simp [PS.out]
    · simp only [PS.out]
      split
      · rename_i h; simp at h
      · split <;> simp
theorem feed_len (s : List UInt8) (p : PS) : (feed p s).out.length ≤ p.out.length + s.length := by
  induction s generalizing p with
  | nil => simp [feed]
  | cons c s ih => rw [feed_cons]; have h1 := ih (pst p c); have h2 := pst_len p c; simp; omega
theorem tree_len (s : List UInt8) : (tree s).length ≤ s.length + 1 := by have := feed_len s pin; simp [tree]; simp [pin, PS.out] at this; simpa [pin, PS.out, Nat.add_comm] using this

/-- The open nodes are parts of one another, the innermost first. -/
def Chain (l : List Nd) : List Nat → Prop
  | [] => False
  | [o] => o = 0 ∧ 0 < l.length
  | o :: o' :: r => (∃ n, l[o]? = some n ∧ n.up = (o' : Int)) ∧ o' < o ∧ Chain l (o' :: r)
theorem Chain.mono {l l' : List Nd} (h : l <+: l') : ∀ {st : List Nat}, Chain l st → Chain l' st
  | [], hc => hc
  | [o], hc => ⟨hc.1, Nat.lt_of_lt_of_le hc.2 h.length_le⟩
  | o :: o' :: r, hc => by
    obtain ⟨⟨n, hn, hu⟩, hlt, hr⟩ := hc
    exact ⟨⟨n, by obtain ⟨t, rfl⟩ := h; rw [List.getElem?_append_left (List.getElem?_eq_some_iff.1 hn).1]; exact hn, hu⟩, hlt, Chain.mono h hr⟩
theorem Chain.lt {l : List Nd} : ∀ {st : List Nat}, Chain l st → ∀ o ∈ st, o < l.length
  | [], hc, _, _ => hc.elim
  | [o], hc, x, hx => by simp at hx; subst hx; have := hc.1; have := hc.2; omega
  | o :: o' :: r, hc, x, hx => by
    obtain ⟨⟨n, hn, _⟩, _, hr⟩ := hc
    rcases List.mem_cons.1 hx with rfl | hx
    · exact (List.getElem?_eq_some_iff.1 hn).1
    · exact Chain.lt hr x hx
theorem Chain.tail {l : List Nd} {o o' : Nat} {r : List Nat} (h : Chain l (o :: o' :: r)) : Chain l (o' :: r) := h.2.2
theorem pst_chain (p : PS) (c : UInt8) (h : Chain p.l p.st) (hd : 2 ≤ p.st.length ∨ enB c = false) : Chain (pst p c).l (pst p c).st := by
  have hp : Chain p.out p.st := h.mono (l_out p)
  unfold pst
  split
  · cases hst : p.st with
    | nil => rw [hst] at h; exact h.elim
    | cons o r =>
      rw [hst] at hp
      refine ⟨⟨⟨ba [c], ba [], p.up⟩, by simp, by simp [PS.up, hst]⟩, hp.lt o (by simp), hp.mono (List.prefix_append _ _)⟩
  · split
    · rename_i h1 h2
      rw [h2] at hd
      simp at hd
      match hst : p.st, hp, hd with
      | o :: o' :: r, hp, _ => exact hp.tail
    · exact h

/-- Behind the bytes of a document up to a place. -/
theorem feed_ok : ∀ (b : List UInt8) (p : PS) (k : Nat), p.st.length = k + 1 → Chain p.l p.st → (∀ i, i ≤ b.length → 0 ≤ (k : Int) + ((b.map dl).take i).sum) →
    Chain (feed p b).l (feed p b).st ∧ ((feed p b).st.length : Int) = k + (b.map dl).sum + 1
  | [], p, k, hk, hc, _ => ⟨hc, by simp [feed, hk]⟩
  | c :: b, p, k, hk, hc, hd => by
    rw [feed_cons]
    have h1 := hd 1 (by simp)
    simp at h1
    have hd2 : 2 ≤ p.st.length ∨ enB c = false := by
      cases he : enB c with
      | false => exact Or.inr rfl
      | true => left; have : dl c = -1 := by simp [dl, op_of_en he, he]
                omega
    have hc' := pst_chain p c hc hd2
    have hl : ((pst p c).st.length : Int) = k + dl c + 1 := by
      rw [pst_st]
      by_cases ho : opB c = true
      · rw [if_pos ho]; simp [dl, ho, hk]
      · rw [if_neg ho]
        by_cases he : enB c = true
        · rw [if_pos he]; simp [dl, ho, he, hk]; omega
        · rw [if_neg he]; simp [dl, ho, he, hk]
    have ih := feed_ok b (pst p c) ((k : Int) + dl c).toNat (by omega) hc' (fun i hi => by
      have := hd (i + 1) (by simp; omega)
      simp at this; omega)
    refine ⟨ih.1, ?_⟩
    rw [ih.2]; simp; omega
end Go.Proofs.YtmjehpigfkobeabDoor.Doc1

namespace Go.Proofs.YtmjehpigfkobeabDoor.Doc1

/-- What is laid out so far: the text, where nodes begin and end, the nodes that are open (the innermost first). -/
structure LS where
  text : List UInt8
  fr : List Nat
  to : List Nat
  op : List Nat

def slash : UInt8 := 47
theorem slash_en : enB slash = true := by decide
theorem slash_pl : plB slash = false := by decide

/-- One element ends. -/
def LS.pop (z : LS) (o : Nat) (r : List Nat) : LS := ⟨z.text ++ [slash], z.fr, z.to.set o (z.text.length + 1), r⟩
def endI (text : List UInt8) (fr to : List Nat) : List Nat → Int → Option LS
  | [], _ => none
  | o :: r, u => if (o : Int) = u then some ⟨text, fr, to, o :: r⟩ else endI (text ++ [slash]) fr (to.set o (text.length + 1)) r u
def LS.endInto (z : LS) (u : Int) : Option LS := endI z.text z.fr z.to z.op u
def LS.push (z : LS) : LS := ⟨z.text, z.fr, z.to, z.fr.length :: z.op⟩
def LS.write (z : LS) (h : List UInt8) : LS := ⟨z.text ++ h, z.fr ++ [z.text.length], z.to ++ [z.text.length + h.length], z.op⟩
def endsPl (t : List UInt8) : Bool := match t.getLast? with | some c => plB c | none => false
def isNm (s : List UInt8) : Bool := match s with | [c] => opB c | _ => false
def isRn (s : List UInt8) : Bool := !s.isEmpty && decide (s.length ≤ 300) && s.all plB
inductive Sh | whole | elem | run | none
def shp (n : Nd) : Sh :=
  if n.name.data.toList = [] ∧ n.text.data.toList = [] ∧ n.up = -1 then .whole
  else if isNm n.name.data.toList ∧ n.text.data.toList = [] then .elem
  else if n.name.data.toList = [] ∧ isRn n.text.data.toList then .run
  else .none
def addN (z : LS) (n : Nd) : Option LS :=
  match shp n with
  | .whole => if z.fr.length = 0 then some (z.push.write []) else none
  | .elem => (z.endInto n.up).map fun y => y.push.write n.name.data.toList
  | .run => (z.endInto n.up).bind fun y => if endsPl y.text then none else some (y.write n.text.data.toList)
  | .none => none
def addAll : LS → List Nd → Option LS
  | z, [] => some z
  | z, n :: l => (addN z n).bind fun y => addAll y l
def z0 : LS := ⟨[], [], [], []⟩
theorem addAll_app (z : LS) (a b : List Nd) : addAll z (a ++ b) = (addAll z a).bind fun y => addAll y b := by
  induction a generalizing z with
  | nil => rfl
  | cons n a ih =>
    simp only [List.cons_append, addAll]
    cases addN z n with
    | none => rfl
    | some y => exact ih y
theorem addAll_snoc (z : LS) (a : List Nd) (n : Nd) : addAll z (a ++ [n]) = (addAll z a).bind fun y => addN y n := by
  rw [addAll_app]
  cases addAll z a with
  | none => rfl
  | some y =>
    show addAll y [n] = addN y n
    unfold addAll
    cases addN y n <;> rfl

/-- What was laid out tells its nodes again. -/
structure Sim (z : LS) (l : List Nd) : Prop where
  out : (feed pin z.text).out = l
  st : (feed pin z.text).st = z.op
  r : (feed pin z.text).r = [] ↔ endsPl z.text = false
  len : z.fr.length = l.length
theorem endsPl_snoc (t : List UInt8) (c : UInt8) : endsPl (t ++ [c]) = plB c := by simp [endsPl]
theorem endI_sim (l : List Nd) (u : Int) : ∀ (op : List Nat) (text : List UInt8) (fr to : List Nat) (y : LS), Sim ⟨text, fr, to, op⟩ l → endI text fr to op u = some y → Sim y l ∧ (∃ o r, y.op = o :: r ∧ (o : Int) = u)
  | [], _, _, _, _, _, h => by simp [endI] at h
  | o :: r, text, fr, to, y, hs, h => by
    unfold endI at h
    split at h
    · rename_i he
      cases h
      exact ⟨hs, o, r, rfl, he⟩
    · refine endI_sim l u r _ _ _ y ?_ h
      have e := feed_snoc pin text slash
      rw [pst_en _ slash_en] at e
      refine ⟨?_, ?_, ?_, hs.len⟩
      · show (feed pin (text ++ [slash])).out = l
        rw [e, out_nil _ rfl]; exact hs.out
      · show (feed pin (text ++ [slash])).st = r
        have := hs.st
        rw [e]
        show ((feed pin text).st).tail = r
        have hst : (feed pin text).st = o :: r := hs.st
        rw [hst]; rfl
      · show (feed pin (text ++ [slash])).r = [] ↔ endsPl (text ++ [slash]) = false
        rw [e, endsPl_snoc]; simp [slash_pl]
theorem nm_of {s : List UInt8} (h : isNm s = true) : ∃ c, s = [c] ∧ opB c = true := by
  match s, h with
  | [c], h => exact ⟨c, rfl, h⟩
theorem endsPl_run (t s : List UInt8) (h : isRn s = true) : endsPl (t ++ s) = true := by
  unfold isRn at h
  simp only [Bool.and_eq_true, Bool.not_eq_true', List.isEmpty_eq_false_iff, List.all_eq_true] at h
  obtain ⟨⟨h1, _⟩, h2⟩ := h
  unfold endsPl
  rw [List.getLast?_append, List.getLast?_eq_some_getLast h1]
  exact h2 _ (List.getLast_mem h1)
theorem nd_eq (n : Nd) (a b : List UInt8) (h1 : n.name.data.toList = a) (h2 : n.text.data.toList = b) : (⟨ba a, ba b, n.up⟩ : Nd) = n := by
  subst h1 h2; rw [ba_of, ba_of]
theorem addN_sim {z y : LS} {l : List Nd} {n : Nd} (hs : Sim z l) (hl : l ≠ []) (h : addN z n = some y) : Sim y (l ++ [n]) := by
  unfold addN at h
  split at h
  · split at h
    · rename_i h0
      have := hs.len
      rw [h0] at this
      exact absurd (List.length_eq_zero_iff.1 this.symm) hl
    · cases h
  · rename_i hsh
    have hsn : isNm n.name.data.toList = true ∧ n.text.data.toList = [] := by
      unfold shp at hsh
      split at hsh
      · cases hsh
      · split at hsh
        · assumption
        · split at hsh <;> cases hsh
    cases he : z.endInto n.up with
    | none => rw [he] at h; simp at h
    | some x =>
      rw [he] at h
      simp only [Option.map_some, Option.some.injEq] at h
      subst h
      obtain ⟨hx, o, r, hop, hou⟩ := endI_sim l n.up _ _ _ _ x hs he
      obtain ⟨c, hc, ho⟩ := nm_of hsn.1
      have e := feed_snoc pin x.text c
      rw [pst_op _ ho] at e
      have hup : (feed pin x.text).up = n.up := by rw [PS.up, hx.st, hop]; exact hou
      rw [hx.out, hup, hx.st] at e
      refine ⟨?_, ?_, ?_, ?_⟩
      · show (feed pin (x.text ++ n.name.data.toList)).out = _
        rw [hc, e]; simp only [PS.out, if_pos]; rw [nd_eq n _ _ hc hsn.2]
      · show (feed pin (x.text ++ n.name.data.toList)).st = x.fr.length :: x.op
        rw [hc, e, hx.len]
      · show (feed pin (x.text ++ n.name.data.toList)).r = [] ↔ endsPl (x.text ++ n.name.data.toList) = false
        rw [hc, e, endsPl_snoc]
        have := (sep c).1
        rw [ho] at this
        simp at this
        simp [this]
      · show (x.fr ++ [x.text.length]).length = _
        simp [hx.len]
  · rename_i hsh
    have hsn : n.name.data.toList = [] ∧ isRn n.text.data.toList = true := by
      unfold shp at hsh
      split at hsh
      · cases hsh
      · split at hsh
        · cases hsh
        · split at hsh
          · assumption
          · cases hsh
    cases he : z.endInto n.up with
    | none => rw [he] at h; simp at h
    | some x =>
      rw [he] at h
      simp only [Option.bind_some] at h
      split at h
      · cases h
      · rename_i hpl
        simp only [Option.some.injEq] at h
        subst h
        obtain ⟨hx, o, r, hop, hou⟩ := endI_sim l n.up _ _ _ _ x hs he
        have hr : (feed pin x.text).r = [] := hx.r.2 (by simpa using hpl)
        have hall : n.text.data.toList.all plB = true := by have := hsn.2; unfold isRn at this; simp only [Bool.and_eq_true] at this; exact this.2
        have hne : n.text.data.toList ≠ [] := by have := hsn.2; unfold isRn at this; simp only [Bool.and_eq_true, Bool.not_eq_true', List.isEmpty_eq_false_iff] at this; exact this.1.1
        have e : feed pin (x.text ++ n.text.data.toList) = ⟨(feed pin x.text).l, x.op, n.text.data.toList⟩ := by
          rw [feed_app, feed_run _ _ hall, hr, hx.st]; rfl
        have hol : (feed pin x.text).l = l := by rw [← out_nil _ hr]; exact hx.out
        rw [hol] at e
        refine ⟨?_, ?_, ?_, ?_⟩
        · show (feed pin (x.text ++ n.text.data.toList)).out = _
          rw [e]; simp only [PS.out, if_neg hne, PS.up, hop]
          rw [show ((List.headD (o :: r) 0 : Nat) : Int) = n.up from hou, nd_eq n _ _ hsn.1 rfl]
        · show (feed pin (x.text ++ n.text.data.toList)).st = x.op
          rw [e]
        · show (feed pin (x.text ++ n.text.data.toList)).r = [] ↔ endsPl (x.text ++ n.text.data.toList) = false
          rw [e, endsPl_run _ _ hsn.2]; simp [hne]
        · show (x.fr ++ [x.text.length]).length = _
          simp [hx.len]
  · cases h
theorem addN_first {y : LS} {n : Nd} (h : addN z0 n = some y) : Sim y [n] ∧ n = ⟨ba [], ba [], -1⟩ ∧ y = ⟨[], [0], [0], [0]⟩ := by
  unfold addN at h
  split at h
  · rename_i hsh
    have hsn : n.name.data.toList = [] ∧ n.text.data.toList = [] ∧ n.up = -1 := by
      unfold shp at hsh
      split at hsh
      · assumption
      · split at hsh
        · cases hsh
        · split at hsh <;> cases hsh
    have hn : n = ⟨ba [], ba [], -1⟩ := by rw [← nd_eq n _ _ hsn.1 hsn.2.1, hsn.2.2]
    simp [z0, LS.push, LS.write] at h
    subst h
    subst hn
    exact ⟨⟨rfl, rfl, by simp [feed, pin, endsPl], rfl⟩, rfl, rfl⟩
  · simp [z0, LS.endInto, endI] at h
  · simp [z0, LS.endInto, endI] at h
  · cases h
theorem addAll_sim : ∀ (b : List Nd) (z y : LS) (l : List Nd), Sim z l → l ≠ [] → addAll z b = some y → Sim y (l ++ b)
  | [], z, y, l, hs, _, h => by
    simp [addAll] at h; subst h; simpa using hs
  | n :: b, z, y, l, hs, hl, h => by
    unfold addAll at h
    cases he : addN z n with
    | none => rw [he] at h; simp at h
    | some x =>
      rw [he] at h
      have := addAll_sim b x y (l ++ [n]) (addN_sim hs hl he) (by simp) h
      simpa using this
/-- Z: what can be laid out is the tree of its text. -/
theorem lay_tree {l : List Nd} {z y : LS} (h : addAll z0 l = some z) (hl : l ≠ []) (he : z.endInto 0 = some y) : l = tree y.text ∧ Sim y l := by
  match l, hl, h with
  | n :: b, _, h =>
    unfold addAll at h
    cases hn : addN z0 n with
    | none => rw [hn] at h; simp at h
    | some x =>
      rw [hn] at h
      have hx := (addN_first hn).1
      have hs : Sim z (n :: b) := addAll_sim b x z [n] hx (by simp) h
      have hy := (endI_sim _ 0 _ _ _ _ y hs he).1
      exact ⟨hy.out.symm, hy⟩
end Go.Proofs.YtmjehpigfkobeabDoor.Doc1

namespace Go.Proofs.YtmjehpigfkobeabDoor.Doc1

/-- Behind the first bytes of a text. -/
def P (s : ByteArray) (k : Nat) : PS := feed pin (s.data.toList.take k)
theorem dep_sum (s : ByteArray) : ∀ k, k ≤ s.size → ((s.data.toList.map dl).take k).sum = dep s.data.toList k
  | 0, _ => by rw [dep_zero]; rfl
  | k + 1, h => by
    have ih := dep_sum s k (by omega)
    have hk : k < (s.data.toList.map dl).length := by simp; omega
    rw [dep_succ s k (by omega), ← ih, List.take_succ_eq_append_getElem hk, List.sum_append]
    simp; rfl
theorem P_ok (s : ByteArray) (hd : doc s.data.toList = true) (k : Nat) (hk : k ≤ s.size) : Chain (P s k).l (P s k).st ∧ ((P s k).st.length : Int) = dep s.data.toList k + 1 := by
  have h := feed_ok (s.data.toList.take k) pin 0 rfl ⟨rfl, by simp [pin]⟩ (fun i hi => by
    have hi2 : i ≤ k := by simp at hi; omega
    rw [List.map_take, List.take_take, Nat.min_eq_left hi2, dep_sum s i (by omega)]
    have := (dep_bd s hd i (by omega)).1
    simpa using this)
  refine ⟨h.1, ?_⟩
  have h2 := h.2
  rw [List.map_take, dep_sum s k hk] at h2
  show ((feed pin (s.data.toList.take k)).st.length : Int) = _
  simpa using h2
theorem P_succ (s : ByteArray) (k : Nat) (h : k < s.size) : P s (k + 1) = pst (P s k) s[k] := by
  unfold P; rw [take_snoc s k h, feed_snoc]
theorem P_zero (s : ByteArray) : P s 0 = pin := rfl
theorem P_last (s : ByteArray) : (P s s.size).out = tree s.data.toList := by
  unfold P tree; rw [List.take_of_length_le (by simp)]
theorem P_len (s : ByteArray) (k : Nat) : (P s k).out.length ≤ k + 1 := by
  have := tree_len (s.data.toList.take k)
  have h2 := List.length_take_le k s.data.toList
  have h3 : (P s k).out = tree (s.data.toList.take k) := rfl
  rw [h3]; omega
/-- How many plain bytes lie side by side at the head. -/
def pe (l : List UInt8) : Nat := (l.takeWhile plB).length
theorem pe_end (s : ByteArray) (k : Nat) (h : s.size ≤ k) : pe (s.data.toList.drop k) = 0 := by rw [drop_end s k h]; rfl
theorem pe_pl (s : ByteArray) (k : Nat) (h : k < s.size) (hp : plB s[k] = true) : pe (s.data.toList.drop k) = pe (s.data.toList.drop (k + 1)) + 1 := by
  rw [drop_cons s k h, pe, List.takeWhile_cons, if_pos hp]; rfl
theorem pe_no (s : ByteArray) (k : Nat) (h : k < s.size) (hp : plB s[k] = false) : pe (s.data.toList.drop k) = 0 := by
  rw [drop_cons s k h, pe, List.takeWhile_cons, if_neg (by simp [hp])]; rfl
theorem pe_le (s : ByteArray) (k : Nat) (hk : k ≤ s.size) : k + pe (s.data.toList.drop k) ≤ s.size := by
  have := (List.takeWhile_prefix plB (l := s.data.toList.drop k)).length_le
  simp at this; unfold pe; omega
theorem takeWhile_take {p : UInt8 → Bool} : ∀ l : List UInt8, l.takeWhile p = l.take (l.takeWhile p).length
  | [] => rfl
  | c :: l => by
    rw [List.takeWhile_cons]
    split
    · rw [List.length_cons, List.take_succ_cons, ← takeWhile_take l]
    · rfl
theorem at_drop {p : UInt8 → Bool} : ∀ (l : List UInt8) (c : UInt8) (r : List UInt8), l.dropWhile p = c :: r → l[(l.takeWhile p).length]? = some c
  | [], _, _, h => by simp at h
  | x :: l, c, r, h => by
    rw [List.dropWhile_cons] at h
    rw [List.takeWhile_cons]
    split at h
    · rename_i hp
      rw [if_pos hp]
      have := at_drop l c r h
      simpa using this
    · rename_i hp
      rw [if_neg hp]
      simp at h
      simp [h.1]
theorem pe_next (s : ByteArray) (k : Nat) (h : k + pe (s.data.toList.drop k) < s.size) : plB (s[k + pe (s.data.toList.drop k)]'h) = false := by
  have h1 := List.takeWhile_append_dropWhile (p := plB) (l := s.data.toList.drop k)
  cases hw : (s.data.toList.drop k).dropWhile plB with
  | nil =>
    rw [hw] at h1
    have h2 : (s.data.toList.drop k).length = pe (s.data.toList.drop k) := by rw [pe]; conv => lhs; rw [← h1]
                                                                              simp
    simp at h2; omega
  | cons c r =>
    have hc : plB c = false := by
      have := List.head?_dropWhile_not plB (s.data.toList.drop k)
      rw [hw] at this
      simpa using this
    have e : (s.data.toList.drop k)[pe (s.data.toList.drop k)]? = some c := at_drop _ _ _ hw
    rw [List.getElem?_drop] at e
    have e2 : s.data.toList[k + pe (s.data.toList.drop k)]? = some (s[k + pe (s.data.toList.drop k)]'h) := by
      rw [List.getElem?_eq_getElem (by simpa using h)]; rfl
    rw [e2] at e
    cases e
    exact hc
/-- Behind a run. -/
theorem P_run (s : ByteArray) (k : Nat) (hr : (P s k).r = []) : P s (k + pe (s.data.toList.drop k)) = ⟨(P s k).l, (P s k).st, (s.data.toList.drop k).takeWhile plB⟩ := by
  unfold P at *
  rw [List.take_add, feed_app, pe, ← takeWhile_take, feed_run _ _ List.all_takeWhile, hr]
  rfl

/-- Behind the first bytes of a text, from what was known on. -/
def PP (p : PS) (s : ByteArray) (k : Nat) : PS := feed p (s.data.toList.take k)
theorem PP_zero (p : PS) (s : ByteArray) : PP p s 0 = p := rfl
theorem PP_succ (p : PS) (s : ByteArray) (k : Nat) (h : k < s.size) : PP p s (k + 1) = pst (PP p s k) s[k] := by
  unfold PP; rw [take_snoc s k h, feed_snoc]
theorem PP_last (p : PS) (s : ByteArray) : PP p s s.size = feed p s.data.toList := by
  unfold PP; rw [List.take_of_length_le (by simp)]
theorem PP_run (p : PS) (s : ByteArray) (k : Nat) (hr : (PP p s k).r = []) : PP p s (k + pe (s.data.toList.drop k)) = ⟨(PP p s k).l, (PP p s k).st, (s.data.toList.drop k).takeWhile plB⟩ := by
  unfold PP at *
  rw [List.take_add, feed_app, pe, ← takeWhile_take, feed_run _ _ List.all_takeWhile, hr]
  rfl
theorem PP_sub (p : PS) (s : ByteArray) (k K : Nat) (h : k < K) (hK : K ≤ s.size) : PP p s K = feed (pst (PP p s k) (s[k]'(by omega))) ((s.data.toList.drop (k + 1)).take (K - (k + 1))) := by
  rw [← PP_succ p s k (by omega)]
  unfold PP
  rw [← feed_app]
  congr 1
  rw [← List.take_add, show k + 1 + (K - (k + 1)) = K by omega]
theorem PP_len (p : PS) (s : ByteArray) (k : Nat) : (PP p s k).out.length ≤ p.out.length + k := by
  have := feed_len (s.data.toList.take k) p
  have h2 := List.length_take_le k s.data.toList
  unfold PP; omega
end Go.Proofs.YtmjehpigfkobeabDoor.Doc1

namespace Go.Proofs.YtmjehpigfkobeabDoor.Doc1

def Desc (l : List Nat) : Prop := l.Pairwise (· > ·)
theorem endI_mem (u : Int) : ∀ (op : List Nat) (text : List UInt8) (fr to : List Nat) (y : LS), endI text fr to op u = some y → (∃ o ∈ op, (o : Int) = u) ∧ y.fr = fr ∧ (∀ o ∈ y.op, o ∈ op) ∧ (Desc op → Desc y.op)
  | [], _, _, _, _, h => by simp [endI] at h
  | o :: r, text, fr, to, y, h => by
    unfold endI at h
    split at h
    · rename_i he
      cases h
      exact ⟨⟨o, by simp, he⟩, rfl, fun x hx => hx, fun hD => hD⟩
    · obtain ⟨⟨x, hx, hxu⟩, h2, h3, h4⟩ := endI_mem u r _ _ _ y h
      exact ⟨⟨x, List.mem_cons_of_mem _ hx, hxu⟩, h2, fun z hz => List.mem_cons_of_mem _ (h3 z hz), fun hD => h4 (List.pairwise_cons.1 hD).2⟩
/-- Ending further is ending on. -/
theorem endI_past (u u' : Int) (hu : u' < u) : ∀ (op : List Nat) (text : List UInt8) (fr to : List Nat) (y : LS), Desc op → endI text fr to op u = some y → endI text fr to op u' = endI y.text y.fr y.to y.op u'
  | [], _, _, _, _, _, h => by simp [endI] at h
  | o :: r, text, fr, to, y, hD, h => by
    by_cases he : (o : Int) = u
    · unfold endI at h
      rw [if_pos he] at h
      cases h
      rfl
    · rw [endI, if_neg he] at h
      have hm := (endI_mem u r _ _ _ y h).1
      obtain ⟨x, hx, hxu⟩ := hm
      have hox : o > x := (List.pairwise_cons.1 hD).1 x hx
      have hne : (o : Int) ≠ u' := by omega
      rw [endI, if_neg hne]
      exact endI_past u u' hu r _ _ _ y (List.pairwise_cons.1 hD).2 h
theorem endI_self (text : List UInt8) (fr to : List Nat) (o : Nat) (r : List Nat) : endI text fr to (o :: r) (o : Int) = some ⟨text, fr, to, o :: r⟩ := by
  rw [endI, if_pos rfl]
/-- What is known of the layout behind some bytes of a document. -/
structure LayI (b : List UInt8) (p : PS) (zl zE : LS) : Prop where
  all : addAll z0 p.l = some zl
  ends : zl.endInto p.up = some zE
  op : zE.op = p.st
  text : zE.text ++ p.r = b
  len : zE.fr.length = p.l.length
  run : p.r.all plB = true
  off : endsPl zE.text = false
  desc : Desc zl.op
  lt : ∀ o ∈ zl.op, o < zl.fr.length
theorem LayI.flen {b : List UInt8} {p : PS} {zl zE : LS} (h : LayI b p zl zE) : zE.fr = zl.fr := (endI_mem p.up _ _ _ _ _ h.ends).2.1
theorem shp_elem {c : UInt8} (u : Int) (h : opB c = true) : shp ⟨ba [c], ba [], u⟩ = .elem := by
  unfold shp
  simp only [ba_list]
  rw [if_neg (by simp), if_pos (by simp [isNm, h])]
theorem shp_run {r : List UInt8} (u : Int) (h1 : r ≠ []) (h2 : r.all plB = true) (h3 : r.length ≤ 300) : shp ⟨ba [], ba r, u⟩ = .run := by
  unfold shp
  simp only [ba_list]
  rw [if_neg (by simp [h1]), if_neg (by simp [isNm]), if_pos (by simp [isRn, h1, h3]; simpa using h2)]
/-- With the run that may go on. -/
theorem lay_out {b : List UInt8} {p : PS} {zl zE : LS} (h : LayI b p zl zE) (hst : p.st ≠ []) (hb : b.length ≤ 300) : ∃ z2 z3, addAll z0 p.out = some z2 ∧ z2.endInto p.up = some z3 ∧ z3.text = b ∧ z3.op = p.st ∧ z3.fr = z2.fr ∧ z3.fr.length = p.out.length ∧ Desc z2.op ∧ ∀ o ∈ z2.op, o < z2.fr.length := by
  by_cases hr : p.r = []
  · refine ⟨zl, zE, by rw [out_nil _ hr]; exact h.all, h.ends, by have := h.text; rw [hr] at this; simpa using this, h.op, h.flen, by rw [out_nil _ hr]; exact h.len, h.desc, h.lt⟩
  · have ho : p.out = p.l ++ [⟨ba [], ba p.r, p.up⟩] := by simp [PS.out, hr]
    have hrl : p.r.length ≤ 300 := by have := congrArg List.length h.text; simp at this; omega
    have ha : addN zl ⟨ba [], ba p.r, p.up⟩ = some (zE.write p.r) := by
      unfold addN
      rw [shp_run _ hr h.run hrl]
      simp only [h.ends, Option.bind_some, h.off, ba_list]
      rfl
    have hop : (zE.write p.r).op = p.st := h.op
    obtain ⟨o, r, hor⟩ : ∃ o r, p.st = o :: r := by
      cases hs : p.st with
      | nil => exact absurd hs hst
      | cons o r => exact ⟨o, r, rfl⟩
    refine ⟨zE.write p.r, zE.write p.r, by rw [ho, addAll_snoc, h.all]; exact ha, ?_, h.text, hop, rfl, by rw [ho]; simp [LS.write, h.len], ?_, ?_⟩
    · unfold LS.endInto
      rw [hop, hor]
      have : p.up = (o : Int) := by simp [PS.up, hor]
      rw [this, endI_self]
      have e : zE.write p.r = ⟨(zE.write p.r).text, (zE.write p.r).fr, (zE.write p.r).to, o :: r⟩ := by rw [← hor, ← hop]
      exact congrArg some e.symm
    · rw [hop, ← h.op]; exact (endI_mem p.up _ _ _ _ _ h.ends).2.2.2 h.desc
    · intro x hx
      have hx2 : x ∈ zE.op := hx
      have := h.lt x ((endI_mem p.up _ _ _ _ _ h.ends).2.2.1 x hx2)
      have hl := h.flen
      simp only [LS.write, List.length_append]
      rw [hl]; omega
theorem layI_start : LayI [] pin ⟨[], [0], [0], [0]⟩ ⟨[], [0], [0], [0]⟩ where
  all := by simp [addAll, addN, shp, pin, z0, LS.push, LS.write, ba]
  ends := by simp [LS.endInto, endI, PS.up, pin]
  op := rfl
  text := rfl
  len := rfl
  run := rfl
  off := rfl
  desc := by simp [Desc]
  lt := by simp
theorem layI_step {b : List UInt8} {p : PS} {zl zE : LS} (h : LayI b p zl zE) (c : UInt8) (hc : okC c = true) (hch : Chain p.l p.st) (hd : 2 ≤ p.st.length ∨ enB c = false) (hb : b.length ≤ 300) : ∃ zl' zE', LayI (b ++ [c]) (pst p c) zl' zE' := by
  have hst : p.st ≠ [] := by intro e; rw [e] at hch; exact hch
  by_cases ho : opB c = true
  · obtain ⟨z2, z3, e1, e2, e3, e4, e5, e6, e7, e8⟩ := lay_out h hst hb
    rw [pst_op p ho]
    have ha : addN z2 ⟨ba [c], ba [], p.up⟩ = some (z3.push.write [c]) := by
      unfold addN
      rw [shp_elem _ ho]
      simp only [e2, Option.map_some, ba_list]
    have hop : (z3.push.write [c]).op = p.out.length :: p.st := by simp [LS.push, LS.write, e4, e6]
    have hnp : plB c = false := by have := (sep c).1; rw [ho] at this; simpa using this
    refine ⟨z3.push.write [c], z3.push.write [c], ⟨by rw [addAll_snoc, e1]; exact ha, ?_, hop, by simp [LS.push, LS.write, e3], by simp [LS.push, LS.write, e6], rfl, by simp [LS.push, LS.write, endsPl_snoc, hnp], ?_, ?_⟩⟩
    · unfold LS.endInto
      rw [hop]
      show endI _ _ _ _ ((p.out.length : Nat) : Int) = _
      rw [endI_self]
      have e : z3.push.write [c] = ⟨(z3.push.write [c]).text, (z3.push.write [c]).fr, (z3.push.write [c]).to, p.out.length :: p.st⟩ := by rw [← hop]
      exact congrArg some e.symm
    · rw [hop]
      refine List.pairwise_cons.2 ⟨fun x hx => (hch.mono (l_out p)).lt x hx, ?_⟩
      rw [← e4]; exact (endI_mem p.up _ _ _ _ _ e2).2.2.2 e7
    · rw [hop]
      intro x hx
      have hfl : (z3.push.write [c]).fr.length = p.out.length + 1 := by simp [LS.push, LS.write, e6]
      rw [hfl]
      rcases List.mem_cons.1 hx with rfl | hx
      · omega
      · have := (hch.mono (l_out p)).lt x hx; omega
  · by_cases he : enB c = true
    · obtain ⟨z2, z3, e1, e2, e3, e4, e5, e6, e7, e8⟩ := lay_out h hst hb
      rw [pst_en p he]
      rw [he] at hd
      simp at hd
      match hs : p.st, hch, hd with
      | u :: u' :: r, hch, _ =>
        have hlt : u' < u := hch.2.1
        have hup : p.up = (u : Int) := by simp [PS.up, hs]
        rw [hup] at e2
        rw [hs] at e4
        have hp := endI_past (u : Int) (u' : Int) (by omega) z2.op z2.text z2.fr z2.to z3 e7 e2
        rw [e4, endI, if_neg (by omega), endI_self] at hp
        have hcs : c = slash := by
          have : c.toNat = 47 := by simpa [enB] using he
          exact UInt8.toNat_inj.1 (by rw [this]; rfl)
        refine ⟨z2, ⟨z3.text ++ [slash], z3.fr, z3.to.set u (z3.text.length + 1), u' :: r⟩, ⟨e1, hp, rfl, by simp [e3, hcs], by show z3.fr.length = _; exact e6, rfl, by simp [endsPl_snoc, slash_pl], e7, e8⟩⟩
    · have hpl : plB c = true := by unfold okC at hc; simpa [ho, he] using hc
      rw [pst_pl p hpl]
      exact ⟨zl, zE, ⟨h.all, h.ends, h.op, by rw [← List.append_assoc, h.text], h.len, by simp [h.run, hpl], h.off, h.desc, h.lt⟩⟩
/-- X: the tree of a document can be laid out, and its text is the document. -/
theorem tree_lay (s : ByteArray) (hd : doc s.data.toList = true) : ∃ z y, addAll z0 (tree s.data.toList) = some z ∧ z.endInto 0 = some y ∧ y.text = s.data.toList := by
  have hs : s.size ≤ 300 := by
    have hd' := hd
    unfold doc good at hd'
    simp only [Bool.and_eq_true, decide_eq_true_eq] at hd'
    have := hd'.1.2
    simpa using this
  have hok : ∀ n (hn : n < s.size), okC s[n] = true := by
    intro n hn
    have hd' := hd
    unfold doc good at hd'
    simp only [Bool.and_eq_true] at hd'
    have h1 : allOk s.data.toList = true := hd'.1.1
    unfold allOk at h1
    have hm : s[n] ∈ s.data.toList := by
      have e := drop_cons s n hn
      have : s[n] ∈ s.data.toList.drop n := by rw [e]; simp
      exact List.mem_of_mem_drop this
    exact List.all_eq_true.1 h1 _ hm
  have key : ∀ k, k ≤ s.size → ∃ zl zE, LayI (s.data.toList.take k) (P s k) zl zE := by
    intro k
    induction k with
    | zero => intro _; exact ⟨_, _, layI_start⟩
    | succ k ih =>
      intro hk
      obtain ⟨zl, zE, h⟩ := ih (by omega)
      obtain ⟨hch, hln⟩ := P_ok s hd k (by omega)
      have hd2 : 2 ≤ (P s k).st.length ∨ enB (s[k]'(by omega)) = false := by
        cases he : enB (s[k]'(by omega)) with
        | false => exact Or.inr rfl
        | true =>
          left
          have h2 := (dep_bd s hd (k + 1) (by omega)).1
          rw [dep_succ s k (by omega), show dl (s[k]'(by omega)) = -1 by simp [dl, op_of_en he, he]] at h2
          omega
      obtain ⟨zl', zE', h'⟩ := layI_step h (s[k]'(by omega)) (hok k (by omega)) hch hd2 (by have := List.length_take_le k s.data.toList; omega)
      rw [take_snoc s k (by omega), P_succ s k (by omega)]
      exact ⟨zl', zE', h'⟩
  obtain ⟨zl, zE, h⟩ := key s.size (Nat.le_refl _)
  obtain ⟨hch, hln⟩ := P_ok s hd s.size (Nat.le_refl _)
  rw [dep_last s hd] at hln
  have hst : (P s s.size).st = [0] := by
    match hq : (P s s.size).st, hch, hln with
    | [o], hch, _ => rw [hch.1]
    | [], hch, _ => exact hch.elim
    | _ :: _ :: _, _, hln => simp at hln; omega
  obtain ⟨z2, z3, e1, e2, e3, _⟩ := lay_out h (by rw [hst]; simp) (by simp; omega)
  rw [P_last] at e1
  have hup : (P s s.size).up = 0 := by simp [PS.up, hst]
  rw [hup] at e2
  rw [List.take_of_length_le (by simp)] at e3
  exact ⟨z2, z3, e1, e2, e3⟩
end Go.Proofs.YtmjehpigfkobeabDoor.Doc1

namespace Go.Proofs.YtmjehpigfkobeabDoor.Doc1

def ndAt (l : List Nd) (k : Nat) : Nd := l.getD k ⟨ba [], ba [], -1⟩
def nmL (l : List Nd) (k : Nat) : List UInt8 := (ndAt l k).name.data.toList
def txL (l : List Nd) (k : Nat) : List UInt8 := (ndAt l k).text.data.toList
def slL (l : List Nd) (k : Nat) : List UInt8 := if nmL l k = [] then [] else [slash]
theorem ndAt_pre {l : List Nd} (n : Nd) {k : Nat} (h : k < l.length) : ndAt (l ++ [n]) k = ndAt l k := by
  unfold ndAt; rw [List.getD_eq_getElem?_getD, List.getD_eq_getElem?_getD, List.getElem?_append_left h]
theorem ndAt_new (l : List Nd) (n : Nd) : ndAt (l ++ [n]) l.length = n := by
  unfold ndAt; rw [List.getD_eq_getElem?_getD]; simp
/-- Where what lies in a node ends, of the nodes ahead of i. -/
def ce (l : List Nd) (fr to : List Nat) (k : Nat) : Nat → Nat
  | 0 => fr.getD k 0 + (nmL l k).length + (txL l k).length
  | i + 1 => if k < i ∧ (ndAt l i).up = (k : Int) then to.getD i 0 else ce l fr to k i
/-- How nodes lie in the text. -/
structure Tile (l : List Nd) (text : List UInt8) (fr to op : List Nat) : Prop where
  nf : fr.length = l.length
  nt : to.length = l.length
  t1 : ∀ i, 0 < i → i < l.length → ∃ u : Nat, (ndAt l i).up = (u : Int) ∧ u < i ∧ fr.getD i 0 = ce l fr to u i
  t2 : ∀ k, k < l.length → k ∉ op → to.getD k 0 = ce l fr to k l.length + (slL l k).length
  b1 : ∀ k, k < l.length → (text.drop (fr.getD k 0)).take ((nmL l k).length + (txL l k).length) = nmL l k ++ txL l k ∧ fr.getD k 0 + (nmL l k).length + (txL l k).length ≤ text.length
  b2 : ∀ k, k < l.length → k ∉ op → nmL l k ≠ [] → text[ce l fr to k l.length]? = some slash
  inn : ∀ o r, op = o :: r → text.length = ce l fr to o l.length
  ch : ∀ a o o' r, op = a ++ o :: o' :: r → (ndAt l o).up = (o' : Int) ∧ ∀ i, o < i → i < l.length → (ndAt l i).up ≠ (o' : Int)
  lt : ∀ o ∈ op, o < l.length
  desc : Desc op
  nam : ∀ o ∈ op, o ≠ 0 → nmL l o ≠ []
  root : nmL l 0 = []
theorem ce_set {l : List Nd} {fr to : List Nat} {o k x : Nat} : ∀ i, (∀ j, j < i → k < j → (ndAt l j).up = (k : Int) → j ≠ o) → ce l fr (to.set o x) k i = ce l fr to k i
  | 0, _ => rfl
  | i + 1, h => by
    unfold ce
    rw [ce_set i (fun j hj => h j (by omega))]
    by_cases hc : k < i ∧ (ndAt l i).up = (k : Int)
    · rw [if_pos hc, if_pos hc]
      have := h i (by omega) hc.1 hc.2
      rw [List.getD_eq_getElem?_getD, List.getD_eq_getElem?_getD, List.getElem?_set_ne (Ne.symm this)]
    · rw [if_neg hc, if_neg hc]
theorem ce_none {l : List Nd} {fr to : List Nat} {k : Nat} : ∀ i j, j ≤ i → (∀ m, j ≤ m → m < i → k < m → (ndAt l m).up ≠ (k : Int)) → ce l fr to k i = ce l fr to k j
  | 0, j, h, _ => by obtain rfl : j = 0 := by omega
                     rfl
  | i + 1, j, h, hn => by
    by_cases e : j = i + 1
    · subst e; rfl
    · conv => lhs; unfold ce
      rw [if_neg (fun hc => hn i (by omega) (by omega) hc.1 hc.2)]
      exact ce_none i j (by omega) (fun m h1 h2 => hn m h1 (by omega))
theorem ce_app {l : List Nd} {fr to : List Nat} (n : Nd) (x y : Nat) {k : Nat} (hk : k < l.length) (hf : fr.length = l.length) (ht : to.length = l.length) : ∀ i, i ≤ l.length → ce (l ++ [n]) (fr ++ [x]) (to ++ [y]) k i = ce l fr to k i
  | 0, _ => by
    unfold ce nmL txL
    rw [ndAt_pre n hk, List.getD_eq_getElem?_getD, List.getD_eq_getElem?_getD, List.getElem?_append_left (by omega)]
  | i + 1, h => by
    unfold ce
    rw [ce_app n x y hk hf ht i (by omega), ndAt_pre n (by omega), List.getD_eq_getElem?_getD (l := to ++ [y]), List.getElem?_append_left (by omega), ← List.getD_eq_getElem?_getD]
/-- One element ends. -/
theorem tile_pop {l : List Nd} {text : List UInt8} {fr to : List Nat} {o o' : Nat} {r : List Nat} (h : Tile l text fr to (o :: o' :: r)) : Tile l (text ++ [slash]) fr (to.set o (text.length + 1)) (o' :: r) := by
  obtain ⟨hup, hno⟩ := h.ch [] o o' r rfl
  have hol := h.lt o (by simp)
  have hD := List.pairwise_cons.1 h.desc
  have hoo : o' < o := hD.1 o' (by simp)
  have hon : o ∉ o' :: r := fun hm => by have := hD.1 o hm; omega
  have hne : ∀ k, k ≠ o' → ∀ i, ce l fr (to.set o (text.length + 1)) k i = ce l fr to k i := fun k hk i => ce_set i (fun j _ _ hj e => by subst e; rw [hup] at hj; omega)
  have hin := h.inn o (o' :: r) rfl
  have hto : (to.set o (text.length + 1)).getD o 0 = text.length + 1 := by
    rw [List.getD_eq_getElem?_getD, List.getElem?_set_self (by rw [h.nt]; exact hol)]; rfl
  refine ⟨h.nf, by rw [List.length_set]; exact h.nt, ?_, ?_, ?_, ?_, ?_, ?_, fun x hx => h.lt x (List.mem_cons_of_mem _ hx), hD.2, fun x hx => h.nam x (List.mem_cons_of_mem _ hx), h.root⟩
  · intro i h0 hi
    obtain ⟨u, h1, h2, h3⟩ := h.t1 i h0 hi
    refine ⟨u, h1, h2, ?_⟩
    by_cases e : u = o'
    · subst e
      rw [h3]
      have hio : i ≤ o := by
        apply Classical.byContradiction
        intro hn
        exact hno i (by omega) hi h1
      exact (ce_set i (fun j hj _ _ => by omega)).symm
    · rw [hne u e]; exact h3
  · intro k hk hkn
    by_cases e : k = o
    · subst e
      rw [hto, hne k (by omega), ← hin]
      have := h.nam k (by simp) (by omega)
      simp [slL, this]
    · have hk' : k ∉ o :: o' :: r := by simp only [List.mem_cons, not_or] at hkn ⊢; exact ⟨e, hkn⟩
      have hko : k ≠ o' := fun e' => hkn (by rw [e']; simp)
      rw [hne k hko, ← h.t2 k hk hk', List.getD_eq_getElem?_getD, List.getD_eq_getElem?_getD, List.getElem?_set_ne (Ne.symm e)]
  · intro k hk
    obtain ⟨h1, h2⟩ := h.b1 k hk
    refine ⟨?_, by rw [List.length_append]; omega⟩
    rw [List.drop_append_of_le_length (by omega), List.take_append_of_le_length (by rw [List.length_drop]; omega)]
    exact h1
  · intro k hk hkn hnm
    by_cases e : k = o
    · subst e
      rw [hne k (by omega), ← hin]; simp
    · have hk' : k ∉ o :: o' :: r := by simp only [List.mem_cons, not_or] at hkn ⊢; exact ⟨e, hkn⟩
      have hko : k ≠ o' := fun e' => hkn (by rw [e']; simp)
      rw [hne k hko]
      have hb := h.b2 k hk hk' hnm
      rw [List.getElem?_append_left (List.getElem?_eq_some_iff.1 hb).1]; exact hb
  · intro x y hxy
    injection hxy with e1 e2
    subst e1
    rw [ce_none l.length (o + 1) (by omega) (fun m h1 h2 _ => hno m (by omega) h2)]
    unfold ce
    rw [if_pos ⟨hoo, hup⟩, hto]; simp
  · intro a x x' y hxy
    exact h.ch (o :: a) x x' y (by rw [hxy]; rfl)
theorem tile_end {l : List Nd} (u : Int) : ∀ (op : List Nat) (text : List UInt8) (fr to : List Nat) (y : LS), Tile l text fr to op → endI text fr to op u = some y → Tile l y.text y.fr y.to y.op
  | [], _, _, _, _, _, h => by simp [endI] at h
  | [o], text, fr, to, y, ht, h => by
    unfold endI at h
    split at h
    · cases h; exact ht
    · simp [endI] at h
  | o :: o' :: r, text, fr, to, y, ht, h => by
    unfold endI at h
    split at h
    · cases h; exact ht
    · exact tile_end u (o' :: r) _ _ _ y (tile_pop ht) h

theorem getD_pre {l : List Nat} (x : Nat) {k : Nat} (h : k < l.length) : (l ++ [x]).getD k 0 = l.getD k 0 := by
  rw [List.getD_eq_getElem?_getD, List.getD_eq_getElem?_getD, List.getElem?_append_left h]
theorem getD_new (l : List Nat) (x : Nat) : (l ++ [x]).getD l.length 0 = x := by
  rw [List.getD_eq_getElem?_getD]; simp
theorem slL_pre {l : List Nd} (n : Nd) {k : Nat} (h : k < l.length) : slL (l ++ [n]) k = slL l k := by unfold slL nmL; rw [ndAt_pre n h]
/-- A node is put behind all others: an element, or a run. -/
theorem tile_add {l : List Nd} {text : List UInt8} {fr to : List Nat} {u : Nat} {r : List Nat} (h : Tile l text fr to (u :: r)) (n : Nd) (hu : n.up = (u : Int)) (el : Bool) (hel : el = true → n.name.data.toList ≠ []) (hrn : el = false → n.name.data.toList = []) :
    Tile (l ++ [n]) (text ++ (n.name.data.toList ++ n.text.data.toList)) (fr ++ [text.length]) (to ++ [text.length + (n.name.data.toList ++ n.text.data.toList).length]) (if el then l.length :: u :: r else u :: r) := by
  have hul := h.lt u (by simp)
  have hin := h.inn u r rfl
  have A := fun {k : Nat} (hk : k < l.length) => ce_app (l := l) (fr := fr) (to := to) n text.length (text.length + (n.name.data.toList ++ n.text.data.toList).length) hk h.nf h.nt
  obtain ⟨H, hH⟩ : ∃ H, H = n.name.data.toList ++ n.text.data.toList := ⟨_, rfl⟩
  rw [← hH] at A ⊢
  have hHl : H.length = n.name.data.toList.length + n.text.data.toList.length := by rw [hH, List.length_append]
  have nmN : nmL (l ++ [n]) l.length = n.name.data.toList := by unfold nmL; rw [ndAt_new]
  have txN : txL (l ++ [n]) l.length = n.text.data.toList := by unfold txL; rw [ndAt_new]
  have frN : (fr ++ [text.length]).getD l.length 0 = text.length := by rw [← h.nf]; exact getD_new _ _
  have toN : (to ++ [text.length + H.length]).getD l.length 0 = text.length + H.length := by rw [← h.nt]; exact getD_new _ _
  have last : ∀ k, k < l.length → k ≠ u → ce (l ++ [n]) (fr ++ [text.length]) (to ++ [text.length + H.length]) k (l ++ [n]).length = ce l fr to k l.length := by
    intro k hk hku
    rw [List.length_append, List.length_singleton]
    conv => lhs; unfold ce
    rw [if_neg (fun hc => hku (by rw [ndAt_new, hu] at hc; omega))]
    exact A hk l.length (Nat.le_refl _)
  have lastN : ce (l ++ [n]) (fr ++ [text.length]) (to ++ [text.length + H.length]) l.length (l ++ [n]).length = text.length + H.length := by
    rw [ce_none (l ++ [n]).length 0 (Nat.zero_le _) (fun m _ h2 h3 => by rw [List.length_append, List.length_singleton] at h2; omega)]
    show (fr ++ [text.length]).getD l.length 0 + (nmL (l ++ [n]) l.length).length + (txL (l ++ [n]) l.length).length = _
    rw [frN, nmN, txN]; omega
  have hops : ∀ x, x ∈ (if el then l.length :: u :: r else u :: r) → x = l.length ∧ el = true ∨ x ∈ u :: r := by
    intro x hx
    cases el with
    | true => rcases List.mem_cons.1 hx with rfl | hx
              · exact Or.inl ⟨rfl, rfl⟩
              · exact Or.inr hx
    | false => exact Or.inr hx
  have hsub : ∀ x, x ∈ u :: r → x ∈ (if el then l.length :: u :: r else u :: r) := by
    intro x hx
    cases el with
    | true => exact List.mem_cons_of_mem _ hx
    | false => exact hx
  refine ⟨by simp [h.nf], by simp [h.nt], ?_, ?_, ?_, ?_, ?_, ?_, ?_, ?_, ?_, ?_⟩
  · intro i h0 hi
    rw [List.length_append, List.length_singleton] at hi
    by_cases e : i = l.length
    · subst e
      exact ⟨u, by rw [ndAt_new]; exact hu, hul, by rw [frN, A hul l.length (Nat.le_refl _)]; exact hin⟩
    · obtain ⟨v, h1, h2, h3⟩ := h.t1 i h0 (by omega)
      exact ⟨v, by rw [ndAt_pre n (by omega)]; exact h1, h2, by rw [getD_pre _ (by rw [h.nf]; omega), A (by omega) i (by omega)]; exact h3⟩
  · intro k hk hkn
    rw [List.length_append, List.length_singleton] at hk
    by_cases e : k = l.length
    · subst e
      have : el = false := by
        cases el with
        | false => rfl
        | true => exact absurd (by simp) hkn
      rw [toN, lastN]
      simp [slL, nmN, hrn this]
    · have hku : k ≠ u := fun e' => hkn (hsub k (by rw [e']; simp))
      rw [last k (by omega) hku, slL_pre n (by omega), getD_pre _ (by rw [h.nt]; omega)]
      exact h.t2 k (by omega) (fun hm => hkn (hsub k hm))
  · intro k hk
    rw [List.length_append, List.length_singleton] at hk
    by_cases e : k = l.length
    · subst e
      rw [frN, nmN, txN, List.drop_left, ← hHl, List.take_length, List.length_append]
      exact ⟨hH, by omega⟩
    · obtain ⟨h1, h2⟩ := h.b1 k (by omega)
      have e1 : nmL (l ++ [n]) k = nmL l k := by unfold nmL; rw [ndAt_pre n (by omega)]
      have e2 : txL (l ++ [n]) k = txL l k := by unfold txL; rw [ndAt_pre n (by omega)]
      rw [getD_pre _ (by rw [h.nf]; omega), e1, e2]
      refine ⟨?_, by rw [List.length_append]; omega⟩
      rw [List.drop_append_of_le_length (by omega), List.take_append_of_le_length (by rw [List.length_drop]; omega)]
      exact h1
  · intro k hk hkn hnm
    rw [List.length_append, List.length_singleton] at hk
    by_cases e : k = l.length
    · subst e
      exfalso
      cases hE : el with
      | true => rw [hE] at hkn; exact hkn (by simp)
      | false => rw [nmN] at hnm; exact hnm (hrn hE)
    · have hku : k ≠ u := fun e' => hkn (hsub k (by rw [e']; simp))
      rw [last k (by omega) hku]
      have hb := h.b2 k (by omega) (fun hm => hkn (hsub k hm)) (by unfold nmL at hnm ⊢; rwa [ndAt_pre n (by omega)] at hnm)
      rw [List.getElem?_append_left (List.getElem?_eq_some_iff.1 hb).1]; exact hb
  · intro o q ho
    cases hE : el with
    | true =>
      rw [hE] at ho
      injection ho with e1 _
      subst e1
      rw [lastN]; simp
    | false =>
      rw [hE] at ho
      injection ho with e1 _
      subst e1
      rw [List.length_append, show (l ++ [n]).length = l.length + 1 by simp]
      unfold ce
      rw [if_pos ⟨hul, by rw [ndAt_new]; exact hu⟩, toN]
  · intro a o o' q ho
    have old : ∀ a o o' q, u :: r = a ++ o :: o' :: q → (ndAt (l ++ [n]) o).up = (o' : Int) ∧ ∀ i, o < i → i < (l ++ [n]).length → (ndAt (l ++ [n]) i).up ≠ (o' : Int) := by
      intro a o o' q ho
      obtain ⟨h1, h2⟩ := h.ch a o o' q ho
      have hol := h.lt o (by rw [ho]; simp)
      refine ⟨by rw [ndAt_pre n hol]; exact h1, fun i g1 g2 => ?_⟩
      rw [List.length_append, List.length_singleton] at g2
      by_cases e : i = l.length
      · subst e
        rw [ndAt_new, hu]
        have hD := h.desc
        rw [ho] at hD
        have hlt : o' < u := by
          cases a with
          | nil =>
            injection ho with e1 _
            subst e1
            exact (List.pairwise_cons.1 hD).1 o' (by simp)
          | cons x a =>
            injection ho with e1 e2
            subst e1
            exact (List.pairwise_cons.1 hD).1 o' (by simp)
        omega
      · rw [ndAt_pre n (by omega)]; exact h2 i g1 (by omega)
    cases hE : el with
    | false => rw [hE] at ho; exact old a o o' q ho
    | true =>
      rw [hE] at ho
      cases a with
      | nil =>
        injection ho with e1 e2
        injection e2 with e2 _
        subst e1 e2
        exact ⟨by rw [ndAt_new]; exact hu, fun i g1 g2 => by rw [List.length_append, List.length_singleton] at g2; omega⟩
      | cons x a =>
        injection ho with _ e2
        exact old a o o' q e2
  · intro x hx
    rw [List.length_append, List.length_singleton]
    rcases hops x hx with ⟨rfl, _⟩ | hx
    · omega
    · have := h.lt x hx; omega
  · cases hE : el with
    | false => exact h.desc
    | true => exact List.pairwise_cons.2 ⟨fun x hx => h.lt x hx, h.desc⟩
  · intro x hx h0
    rcases hops x hx with ⟨rfl, he⟩ | hx
    · rw [nmN]; exact hel he
    · have := h.nam x hx h0
      unfold nmL at this ⊢
      rwa [ndAt_pre n (h.lt x hx)]
  · have hl0 : 0 < l.length := by omega
    have := h.root
    unfold nmL at this ⊢
    rwa [ndAt_pre n hl0]

theorem endI_head (u : Int) : ∀ (op : List Nat) (text : List UInt8) (fr to : List Nat) (y : LS), endI text fr to op u = some y → ∃ o r, y.op = o :: r ∧ (o : Int) = u
  | [], _, _, _, _, h => by simp [endI] at h
  | o :: r, text, fr, to, y, h => by
    unfold endI at h
    split at h
    · rename_i he
      cases h
      exact ⟨o, r, rfl, he⟩
    · exact endI_head u r _ _ _ y h
theorem tile_addN {l : List Nd} {z y : LS} {n : Nd} (h : Tile l z.text z.fr z.to z.op) (hl : l ≠ []) (ha : addN z n = some y) : Tile (l ++ [n]) y.text y.fr y.to y.op := by
  unfold addN at ha
  split at ha
  · split at ha
    · rename_i h0
      have := h.nf
      rw [h0] at this
      exact absurd (List.length_eq_zero_iff.1 this.symm) hl
    · cases ha
  · rename_i hsh
    have hsn : isNm n.name.data.toList = true ∧ n.text.data.toList = [] := by
      unfold shp at hsh
      split at hsh
      · cases hsh
      · split at hsh
        · assumption
        · split at hsh <;> cases hsh
    cases he : z.endInto n.up with
    | none => rw [he] at ha; simp at ha
    | some x =>
      rw [he] at ha
      simp only [Option.map_some, Option.some.injEq] at ha
      subst ha
      have hx := tile_end n.up _ _ _ _ x h he
      obtain ⟨o, r, hop, hou⟩ : ∃ o r, x.op = o :: r ∧ (o : Int) = n.up := endI_head _ _ _ _ _ _ he
      rw [hop] at hx
      obtain ⟨c, hc, _⟩ := nm_of hsn.1
      have := tile_add hx n hou.symm true (fun _ => by rw [hc]; simp) (fun h => by cases h)
      have hxl : x.fr.length = l.length := hx.nf
      simp only [if_true, hsn.2, List.append_nil] at this
      show Tile (l ++ [n]) (x.text ++ n.name.data.toList) (x.fr ++ [x.text.length]) (x.to ++ [x.text.length + n.name.data.toList.length]) (x.fr.length :: x.op)
      rw [hxl, hop]
      exact this
  · rename_i hsh
    have hsn : n.name.data.toList = [] ∧ isRn n.text.data.toList = true := by
      unfold shp at hsh
      split at hsh
      · cases hsh
      · split at hsh
        · cases hsh
        · split at hsh
          · assumption
          · cases hsh
    cases he : z.endInto n.up with
    | none => rw [he] at ha; simp at ha
    | some x =>
      rw [he] at ha
      simp only [Option.bind_some] at ha
      split at ha
      · cases ha
      · simp only [Option.some.injEq] at ha
        subst ha
        have hx := tile_end n.up _ _ _ _ x h he
        obtain ⟨o, r, hop, hou⟩ : ∃ o r, x.op = o :: r ∧ (o : Int) = n.up := endI_head _ _ _ _ _ _ he
        rw [hop] at hx
        have := tile_add hx n hou.symm false (fun h => by cases h) (fun _ => hsn.1)
        simp only [hsn.1, List.nil_append] at this
        show Tile (l ++ [n]) (x.text ++ n.text.data.toList) (x.fr ++ [x.text.length]) (x.to ++ [x.text.length + n.text.data.toList.length]) x.op
        rw [hop]
        exact this
  · cases ha
theorem tile_start : Tile [⟨ba [], ba [], -1⟩] [] [0] [0] [0] where
  nf := rfl
  nt := rfl
  t1 := fun i h0 hi => by simp at hi; omega
  t2 := fun k hk hn => by simp at hk; subst hk; simp at hn
  b1 := fun k hk => by simp at hk; subst hk; simp [nmL, txL, ndAt, ba_list]
  b2 := fun k hk hn _ => by simp at hk; subst hk; simp at hn
  inn := fun o r h => by
    injection h with h1 _
    subst h1
    simp [ce, nmL, txL, ndAt, ba_list]
  ch := fun a o o' r h => by
    have := congrArg List.length h
    simp at this; omega
  lt := fun o ho => by simp at ho; subst ho; simp
  desc := by simp [Desc]
  nam := fun o ho h0 => by simp at ho; exact absurd ho h0
  root := by simp [nmL, ndAt, ba_list]
theorem tile_all : ∀ (b : List Nd) (l : List Nd) (z y : LS), Tile l z.text z.fr z.to z.op → l ≠ [] → addAll z b = some y → Tile (l ++ b) y.text y.fr y.to y.op
  | [], l, z, y, h, _, ha => by simp [addAll] at ha; subst ha; simpa using h
  | n :: b, l, z, y, h, hl, ha => by
    unfold addAll at ha
    cases he : addN z n with
    | none => rw [he] at ha; simp at ha
    | some x =>
      rw [he] at ha
      have := tile_all b (l ++ [n]) x y (tile_addN h hl he) (by simp) ha
      simpa using this
/-- How the nodes of a whole layout lie. -/
theorem tile_lay {l : List Nd} {z y : LS} (h : addAll z0 l = some z) (hl : l ≠ []) (he : z.endInto 0 = some y) : Tile l y.text y.fr y.to y.op ∧ y.op = [0] := by
  match l, hl, h with
  | n :: b, _, h =>
    unfold addAll at h
    cases hn : addN z0 n with
    | none => rw [hn] at h; simp at h
    | some x =>
      rw [hn] at h
      obtain ⟨_, h1, h2⟩ := addN_first hn
      subst h1 h2
      have hz := tile_all b [_] _ z tile_start (by simp) h
      have hy := tile_end 0 _ _ _ _ y hz he
      refine ⟨hy, ?_⟩
      obtain ⟨o, r, hop, hou⟩ := endI_head _ _ _ _ _ _ he
      obtain rfl : o = 0 := by omega
      rw [hop]
      cases r with
      | nil => rfl
      | cons x r =>
        have hD := hy.desc
        rw [hop] at hD
        have := (List.pairwise_cons.1 hD).1 x (by simp)
        omega
end Go.Proofs.YtmjehpigfkobeabDoor.Doc1

namespace Go.Proofs.YtmjehpigfkobeabDoor.Doc1

/-- The parts of a node ahead of i. -/
def kidsU (l : List Nd) (k : Nat) : Nat → List Nat
  | 0 => []
  | i + 1 => if k < i ∧ (ndAt l i).up = (k : Int) then kidsU l k i ++ [i] else kidsU l k i
def kids (l : List Nd) (k : Nat) : List Nat := kidsU l k l.length
theorem kidsU_mem {l : List Nd} {k x : Nat} : ∀ i, x ∈ kidsU l k i → k < x ∧ x < i ∧ (ndAt l x).up = (k : Int)
  | 0, h => by simp [kidsU] at h
  | i + 1, h => by
    unfold kidsU at h
    split at h
    · rename_i hc
      rcases List.mem_append.1 h with h | h
      · have := kidsU_mem i h; exact ⟨this.1, by omega, this.2.2⟩
      · simp at h; subst h; exact ⟨hc.1, by omega, hc.2⟩
    · have := kidsU_mem i h; exact ⟨this.1, by omega, this.2.2⟩
/-- The text of a node. -/
def fl (l : List Nd) (k : Nat) : List UInt8 := nmL l k ++ (txL l k ++ (kids l k).attach.flatMap (fun x => fl l x.1)) ++ slL l k
termination_by l.length - k
decreasing_by
  have := kidsU_mem l.length x.2
  omega
theorem attach_flat {α β : Type} (l : List α) (f : α → List β) : l.attach.flatMap (fun x => f x.1) = l.flatMap f := by
  have := List.attach_map_subtype_val l
  conv => rhs; rw [← this]
  rw [List.flatMap_map]
theorem fl_eq (l : List Nd) (k : Nat) : fl l k = nmL l k ++ (txL l k ++ (kids l k).flatMap (fl l)) ++ slL l k := by
  rw [fl, attach_flat]
/-- A stretch of a text. -/
def seg (t : List UInt8) (a b : Nat) : List UInt8 := (t.drop a).take (b - a)
theorem seg_app (t : List UInt8) {a b c : Nat} (h1 : a ≤ b) (h2 : b ≤ c) : seg t a b ++ seg t b c = seg t a c := by
  unfold seg
  rw [show c - a = (b - a) + (c - b) by omega, List.take_add, List.drop_drop, show a + (b - a) = b by omega]
theorem seg_nil (t : List UInt8) (a : Nat) : seg t a a = [] := by simp [seg]
theorem seg_len (t : List UInt8) {a b : Nat} (h : b ≤ t.length) : (seg t a b).length = b - a := by simp [seg]; omega
/-- Where a node ends. -/
def en (l : List Nd) (fr to : List Nat) (k : Nat) : Nat := ce l fr to k l.length + (slL l k).length
section
variable {l : List Nd} {text : List UInt8} {fr to : List Nat}
theorem to_en (h : Tile l text fr to [0]) {i : Nat} (h0 : 0 < i) (hi : i < l.length) : to.getD i 0 = en l fr to i := h.t2 i hi (by simp; omega)
theorem ce_bd (h : Tile l text fr to [0]) : ∀ (d k : Nat), l.length - k ≤ d → k < l.length → ∀ i, i ≤ l.length → fr.getD k 0 + (nmL l k).length + (txL l k).length ≤ ce l fr to k i ∧ ce l fr to k i ≤ text.length
  | 0, k, hd, hk, _, _ => by omega
  | d + 1, k, hd, hk, i, hi => by
    induction i with
    | zero => exact ⟨Nat.le_refl _, (h.b1 k hk).2⟩
    | succ i ih =>
      have ih := ih (by omega)
      unfold ce
      split
      · rename_i hc
        obtain ⟨u, h1, h2, h3⟩ := h.t1 i (by omega) (by omega)
        obtain rfl : u = k := by have := hc.2; omega
        have hb := ce_bd h d i (by omega) (by omega) l.length (Nat.le_refl _)
        rw [to_en h (by omega) (by omega)]
        unfold en
        refine ⟨by omega, ?_⟩
        unfold slL
        split
        · simp; exact hb.2
        · rename_i hn
          have := h.b2 i (by omega) (by simp; omega) hn
          have := (List.getElem?_eq_some_iff.1 this).1
          simp; omega
      · exact ih
theorem seg_head (h : Tile l text fr to [0]) {k : Nat} (hk : k < l.length) : seg text (fr.getD k 0) (fr.getD k 0 + (nmL l k).length) = nmL l k ∧ seg text (fr.getD k 0 + (nmL l k).length) (fr.getD k 0 + (nmL l k).length + (txL l k).length) = txL l k := by
  obtain ⟨h1, h2⟩ := h.b1 k hk
  have e1 : seg text (fr.getD k 0) (fr.getD k 0 + (nmL l k).length + (txL l k).length) = nmL l k ++ txL l k := by
    unfold seg; rw [← h1]; congr 1; omega
  rw [← seg_app text (b := fr.getD k 0 + (nmL l k).length) (by omega) (by omega)] at e1
  exact List.append_inj e1 (by rw [seg_len _ (by omega)]; omega)
theorem seg_tail (h : Tile l text fr to [0]) {k : Nat} (hk : k < l.length) : seg text (ce l fr to k l.length) (en l fr to k) = slL l k ∧ en l fr to k ≤ text.length := by
  have hb := ce_bd h (l.length - k) k (Nat.le_refl _) hk l.length (Nat.le_refl _)
  unfold en slL
  split
  · simp [seg_nil]; exact hb.2
  · rename_i hn
    have h0 : k ≠ 0 := by rintro rfl; exact hn h.root
    have hs := h.b2 k hk (by simp; exact h0) hn
    obtain ⟨h1, h2⟩ := List.getElem?_eq_some_iff.1 hs
    refine ⟨?_, by simp; omega⟩
    unfold seg
    simp
    rw [List.drop_eq_getElem_cons h1, h2]
    rfl
/-- Y: the text of a node is its stretch. -/
theorem fl_seg (h : Tile l text fr to [0]) : ∀ (d k : Nat), l.length - k ≤ d → k < l.length → fl l k = seg text (fr.getD k 0) (en l fr to k)
  | 0, k, hd, hk => by omega
  | d + 1, k, hd, hk => by
    have B := ce_bd h (l.length - k) k (Nat.le_refl _) hk
    have key : ∀ i, i ≤ l.length → txL l k ++ (kidsU l k i).flatMap (fl l) = seg text (fr.getD k 0 + (nmL l k).length) (ce l fr to k i) := by
      intro i
      induction i with
      | zero =>
        intro _
        show txL l k ++ [] = seg text (fr.getD k 0 + (nmL l k).length) (fr.getD k 0 + (nmL l k).length + (txL l k).length)
        rw [List.append_nil, (seg_head h hk).2]
      | succ i ih =>
        intro hi
        have ih := ih (by omega)
        unfold kidsU ce
        split
        · rename_i hc
          obtain ⟨u, h1, h2, h3⟩ := h.t1 i (by omega) (by omega)
          obtain rfl : u = k := by have := hc.2; omega
          have hi2 := fl_seg h d i (by omega) (by omega)
          have Bi := ce_bd h (l.length - i) i (Nat.le_refl _) (by omega) l.length (Nat.le_refl _)
          rw [List.flatMap_append, ← List.append_assoc, ih]
          simp only [List.flatMap_cons, List.flatMap_nil, List.append_nil]
          rw [hi2, to_en h (by omega) (by omega), h3]
          have := B i (by omega)
          exact seg_app text (by omega) (by unfold en; omega)
        · exact ih
    have hB := B l.length (Nat.le_refl _)
    rw [fl_eq, kids, key l.length (Nat.le_refl _)]
    have e : seg text (fr.getD k 0) (fr.getD k 0 + (nmL l k).length) ++ seg text (fr.getD k 0 + (nmL l k).length) (ce l fr to k l.length) ++ seg text (ce l fr to k l.length) (en l fr to k) = seg text (fr.getD k 0) (en l fr to k) := by
      rw [seg_app text (by omega) (by omega), seg_app text (by omega) (by unfold en; omega)]
    rw [(seg_head h hk).1, (seg_tail h hk).1] at e
    exact e
/-- The text of the whole is the text. -/
theorem fl_all (h : Tile l text fr to [0]) (hl : 0 < l.length) (hf : fr.getD 0 0 = 0) : fl l 0 = text := by
  rw [fl_seg h l.length 0 (by omega) hl, hf]
  have := h.inn 0 [] rfl
  unfold en slL
  rw [if_pos h.root, ← this]
  simp [seg]
end

/-- Where the first node begins. -/
theorem fr_zero {l : List Nd} {z y : LS} (h : addAll z0 l = some z) (hl : l ≠ []) (he : z.endInto 0 = some y) : y.fr.getD 0 0 = 0 := by
  have hk : ∀ (b : List Nd) (z y : LS), z.fr ≠ [] → addAll z b = some y → y.fr.getD 0 0 = z.fr.getD 0 0 ∧ y.fr ≠ [] := by
    intro b
    induction b with
    | nil => intro z y hz ha; simp [addAll] at ha; subst ha; exact ⟨rfl, hz⟩
    | cons n b ih =>
      intro z y hz ha
      unfold addAll at ha
      cases hn : addN z n with
      | none => rw [hn] at ha; simp at ha
      | some x =>
        rw [hn] at ha
        have hx : x.fr.getD 0 0 = z.fr.getD 0 0 ∧ x.fr ≠ [] := by
          unfold addN at hn
          have app : ∀ (f : List Nat) (v : Nat), f ≠ [] → (f ++ [v]).getD 0 0 = f.getD 0 0 ∧ f ++ [v] ≠ [] := fun f v hf => by cases f with | nil => exact absurd rfl hf | cons a f => exact ⟨rfl, by simp⟩
          split at hn
          · split at hn
            · rename_i h0; exact absurd (List.length_eq_zero_iff.1 h0) hz
            · cases hn
          · cases he : z.endInto n.up with
            | none => rw [he] at hn; simp at hn
            | some w =>
              rw [he] at hn
              simp only [Option.map_some, Option.some.injEq] at hn
              subst hn
              have hw := (endI_mem _ _ _ _ _ _ he).2.1
              show (w.fr ++ [_]).getD 0 0 = _ ∧ w.fr ++ [_] ≠ []
              rw [hw]; exact app _ _ hz
          · cases he : z.endInto n.up with
            | none => rw [he] at hn; simp at hn
            | some w =>
              rw [he] at hn
              simp only [Option.bind_some] at hn
              split at hn
              · cases hn
              · simp only [Option.some.injEq] at hn
                subst hn
                have hw := (endI_mem _ _ _ _ _ _ he).2.1
                show (w.fr ++ [_]).getD 0 0 = _ ∧ w.fr ++ [_] ≠ []
                rw [hw]; exact app _ _ hz
          · cases hn
        have := ih x y hx.2 ha
        exact ⟨this.1.trans hx.1, this.2⟩
  match l, hl, h with
  | n :: b, _, h =>
    unfold addAll at h
    cases hn : addN z0 n with
    | none => rw [hn] at h; simp at h
    | some x =>
      rw [hn] at h
      obtain ⟨_, _, h2⟩ := addN_first hn
      subst h2
      have := hk b _ z (by simp) h
      rw [(endI_mem _ _ _ _ _ _ he).2.1, this.1]; rfl
/-- Sums of numbers from m on. -/
def sF (g : Nat → Nat) (m : Nat) : Nat → Nat
  | 0 => 0
  | d + 1 => g m + sF g (m + 1) d
theorem sF_add (f g h : Nat → Nat) : ∀ (d m : Nat), (∀ i, m ≤ i → i < m + d → f i + g i = h i) → sF f m d + sF g m d = sF h m d
  | 0, _, _ => rfl
  | d + 1, m, hh => by
    have := sF_add f g h d (m + 1) (fun i h1 h2 => hh i (by omega) (by omega))
    have h0 := hh m (by omega) (by omega)
    simp only [sF]; omega
theorem sF_congr (f g : Nat → Nat) : ∀ (d m : Nat), (∀ i, m ≤ i → i < m + d → f i = g i) → sF f m d = sF g m d
  | 0, _, _ => rfl
  | d + 1, m, hh => by simp only [sF]; rw [hh m (by omega) (by omega), sF_congr f g d (m + 1) (fun i h1 h2 => hh i (by omega) (by omega))]
theorem sF_snoc (g : Nat → Nat) : ∀ (d m : Nat), sF g m (d + 1) = sF g m d + g (m + d)
  | 0, m => by simp [sF]
  | d + 1, m => by
    have := sF_snoc g d (m + 1)
    simp only [sF] at this ⊢
    rw [this, show m + 1 + d = m + (d + 1) by omega]; omega
theorem kids_sum (l : List Nd) (k : Nat) : ∀ d, ((kidsU l k (k + 1 + d)).flatMap (fl l)).length = sF (fun i => if (ndAt l i).up = (k : Int) then (fl l i).length else 0) (k + 1) d
  | 0 => by
    have : ∀ i, i ≤ k + 1 → kidsU l k i = [] := by
      intro i
      induction i with
      | zero => intro _; rfl
      | succ i ih => intro hi; unfold kidsU; rw [if_neg (by omega)]; exact ih (by omega)
    rw [this (k + 1 + 0) (by omega)]; rfl
  | d + 1 => by
    have ih := kids_sum l k d
    rw [sF_snoc, ← ih, show k + 1 + (d + 1) = k + 1 + d + 1 by omega]
    conv => lhs; unfold kidsU
    by_cases hc : (ndAt l (k + 1 + d)).up = (k : Int)
    · rw [if_pos ⟨by omega, hc⟩, if_pos hc]; simp
    · rw [if_neg (fun h => hc h.2), if_neg hc]; simp
/-- What a node has of its own. -/
def ownL (l : List Nd) (k : Nat) : Nat := (nmL l k).length + (txL l k).length + (slL l k).length
theorem fl_len (l : List Nd) (k : Nat) (hk : k < l.length) : (fl l k).length = ownL l k + sF (fun i => if (ndAt l i).up = (k : Int) then (fl l i).length else 0) (k + 1) (l.length - (k + 1)) := by
  rw [fl_eq]
  have := kids_sum l k (l.length - (k + 1))
  rw [show k + 1 + (l.length - (k + 1)) = l.length by omega] at this
  simp only [List.length_append, kids, this, ownL]; omega
theorem roots_sum (l : List Nd) (hup : ∀ i, i < l.length → (ndAt l i).up < (i : Int)) : ∀ (d m : Nat), m + d = l.length → sF (fun i => if (ndAt l i).up < (m : Int) then (fl l i).length else 0) m d = sF (ownL l) m d
  | 0, _, _ => rfl
  | d + 1, m, h => by
    have ih := roots_sum l hup d (m + 1) (by omega)
    simp only [sF]
    rw [if_pos (hup m (by omega)), fl_len l m (by omega), show l.length - (m + 1) = d by omega, ← ih]
    rw [Nat.add_assoc, sF_add _ _ (fun i => if (ndAt l i).up < ((m + 1 : Nat) : Int) then (fl l i).length else 0) d (m + 1)]
    intro i _ _
    by_cases h1 : (ndAt l i).up = (m : Int)
    · rw [if_pos h1, if_neg (by omega), if_pos (by omega)]; simp
    · rw [if_neg h1]
      by_cases h2 : (ndAt l i).up < (m : Int)
      · rw [if_pos h2, if_pos (by omega)]; simp
      · rw [if_neg h2, if_neg (by omega)]
theorem fl_le (l : List Nd) (hup : ∀ i, i < l.length → (ndAt l i).up < (i : Int)) (k : Nat) (hk : k < l.length) : (fl l k).length ≤ sF (ownL l) k (l.length - k) := by
  have := roots_sum l hup (l.length - k) k (by omega)
  rw [← this]
  obtain ⟨d, hd⟩ : ∃ d, l.length - k = d + 1 := ⟨l.length - k - 1, by omega⟩
  rw [hd]
  simp only [sF]
  rw [if_pos (hup k hk)]
  omega
end Go.Proofs.YtmjehpigfkobeabDoor.Doc1

namespace Go.Proofs.YtmjehpigfkobeabDoor.Doc1

def shOne (l : List Nd) (i : Nat) : Bool := (decide (i = 0) == decide ((ndAt l i).up = -1)) && decide (-1 ≤ (ndAt l i).up ∧ (ndAt l i).up ≤ (i : Int) - 1)
def shU (l : List Nd) : Nat → Bool
  | 0 => true
  | i + 1 => shU l i && shOne l i
def shapeL (l : List Nd) : Bool := shU l l.length && decide (1 ≤ l.length ∧ l.length ≤ 301)
theorem shU_no {l : List Nd} {i : Nat} (h : shOne l i = false) : ∀ n, i < n → shU l n = false
  | 0, hn => by omega
  | n + 1, hn => by
    unfold shU
    by_cases e : i = n
    · subst e; rw [h]; simp
    · rw [shU_no h n (by omega)]; rfl
theorem shU_all {l : List Nd} : ∀ n, shU l n = true → ∀ i, i < n → shOne l i = true
  | 0, _, i, hi => by omega
  | n + 1, h, i, hi => by
    unfold shU at h
    simp only [Bool.and_eq_true] at h
    by_cases e : i = n
    · subst e; exact h.2
    · exact shU_all n h.1 i (by omega)
theorem shU_of {l : List Nd} : ∀ n, (∀ i, i < n → shOne l i = true) → shU l n = true
  | 0, _ => rfl
  | n + 1, h => by
    unfold shU
    rw [shU_of n (fun i hi => h i (by omega)), h n (by omega)]; rfl

/-- Good trees, as the model has it. -/
def goodT (l : List Nd) : Bool := shapeL l && (doc (fl l 0) && decide (tree (fl l 0) = l))
theorem shape_up {l : List Nd} (h : shapeL l = true) : (∀ i, i < l.length → (ndAt l i).up < (i : Int)) ∧ 1 ≤ l.length ∧ l.length ≤ 301 := by
  unfold shapeL at h
  simp only [Bool.and_eq_true, decide_eq_true_eq] at h
  refine ⟨fun i hi => ?_, h.2⟩
  have := shU_all l.length h.1 i hi
  unfold shOne at this
  simp only [Bool.and_eq_true, decide_eq_true_eq] at this
  omega

/-- The whole layout, as the program makes it. -/
def layL (l : List Nd) : Option LS :=
  if l = [] ∨ 301 < l.length then none else
  (addAll z0 l).bind fun z => (z.endInto 0).bind fun y => if doc y.text then some ⟨y.text, y.fr, y.to.set 0 y.text.length, y.op⟩ else none

theorem endI_last (u : Int) : ∀ (op : List Nat) (text : List UInt8) (fr to : List Nat) (y : LS), endI text fr to op u = some y → y.op.getLast? = op.getLast?
  | [], _, _, _, _, h => by simp [endI] at h
  | o :: r, text, fr, to, y, h => by
    unfold endI at h
    split at h
    · cases h; rfl
    · have := endI_last u r _ _ _ y h
      cases r with
      | nil => simp [endI] at h
      | cons x r => rw [this]; simp
theorem endI_zero : ∀ (op : List Nat) (text : List UInt8) (fr to : List Nat), op.getLast? = some 0 → ∃ y, endI text fr to op 0 = some y
  | [], _, _, _, h => by simp at h
  | o :: r, text, fr, to, h => by
    unfold endI
    by_cases e : (o : Int) = 0
    · rw [if_pos e]; exact ⟨_, rfl⟩
    · rw [if_neg e]
      cases r with
      | nil => simp at h; omega
      | cons x r => exact endI_zero (x :: r) _ _ _ (by simpa using h)
theorem last_cons (a : Nat) {l : List Nat} (h : l.getLast? = some 0) : (a :: l).getLast? = some 0 := by
  cases l with
  | nil => simp at h
  | cons x r => simpa using h
theorem addN_last {z y : LS} {n : Nd} (h : addN z n = some y) (h0 : z.op.getLast? = some 0) : y.op.getLast? = some 0 := by
  unfold addN at h
  split at h
  · split at h
    · cases h; exact last_cons _ h0
    · cases h
  · cases he : z.endInto n.up with
    | none => rw [he] at h; simp at h
    | some x =>
      rw [he] at h
      simp only [Option.map_some, Option.some.injEq] at h
      subst h
      exact last_cons _ ((endI_last n.up _ _ _ _ x he).trans h0)
  · cases he : z.endInto n.up with
    | none => rw [he] at h; simp at h
    | some x =>
      rw [he] at h
      simp only [Option.bind_some] at h
      split at h
      · cases h
      · simp only [Option.some.injEq] at h
        subst h
        exact (endI_last n.up _ _ _ _ x he).trans h0
  · cases h
theorem addAll_last : ∀ (b : List Nd) (z y : LS), z.op.getLast? = some 0 → addAll z b = some y → y.op.getLast? = some 0
  | [], z, y, h0, h => by simp [addAll] at h; subst h; exact h0
  | n :: b, z, y, h0, h => by
    unfold addAll at h
    cases he : addN z n with
    | none => rw [he] at h; simp at h
    | some x => rw [he] at h; exact addAll_last b x y (addN_last he h0) h
/-- What was added can be ended. -/
theorem lay_ends {l : List Nd} {z : LS} (h : addAll z0 l = some z) (hl : l ≠ []) : ∃ y, z.endInto 0 = some y := by
  match l, hl, h with
  | n :: b, _, h =>
    unfold addAll at h
    cases hn : addN z0 n with
    | none => rw [hn] at h; simp at h
    | some x =>
      rw [hn] at h
      have hx := (addN_first hn).2.2
      exact endI_zero _ _ _ _ (addAll_last b x z (by rw [hx]; rfl) h)

/-- What is laid out is a good tree, and its text is the tree's. -/
structure Laid (l : List Nd) (y : LS) : Prop where
  good : goodT l = true
  text : y.text = fl l 0
  nf : y.fr.length = l.length
  nt : y.to.length = l.length
  seg : ∀ k, k < l.length → y.to.getD k 0 = y.fr.getD k 0 + (fl l k).length ∧ y.to.getD k 0 ≤ y.text.length
  is : ∀ k, k < l.length → Doc1.seg y.text (y.fr.getD k 0) (y.to.getD k 0) = fl l k
  up : ∀ i, 0 < i → i < l.length → ∃ u : Nat, (ndAt l i).up = (u : Int) ∧ u < i ∧ (u = 0 ∨ nmL l u ≠ []) ∧ y.fr.getD i 0 = ce l y.fr y.to u i
  zero : y.fr.getD 0 0 = 0
  tx : ∀ i, i < l.length → nmL l i ≠ [] ∨ i = 0 → txL l i = []
theorem addN_up {z y : LS} {n : Nd} (h : addN z n = some y) (h0 : z.fr.length ≠ 0) : ∃ u : Nat, n.up = (u : Int) ∧ u ∈ z.op := by
  have key : ∀ x, z.endInto n.up = some x → ∃ u : Nat, n.up = (u : Int) ∧ u ∈ z.op := fun x hx => by
    obtain ⟨⟨o, ho, hou⟩, _⟩ := endI_mem n.up _ _ _ _ x hx
    exact ⟨o, hou.symm, ho⟩
  unfold addN at h
  split at h
  · rw [if_neg h0] at h; cases h
  · cases he : z.endInto n.up with
    | none => rw [he] at h; simp at h
    | some x => exact key x he
  · cases he : z.endInto n.up with
    | none => rw [he] at h; simp at h
    | some x => exact key x he
  · cases h
theorem addN_tx {z y : LS} {n : Nd} (h : addN z n = some y) : n.name.data.toList ≠ [] → n.text.data.toList = [] := by
  intro hne
  unfold addN at h
  split at h
  · rename_i hsh
    unfold shp at hsh
    split at hsh
    · rename_i hh; exact hh.2.1
    · split at hsh
      · cases hsh
      · split at hsh <;> cases hsh
  · rename_i hsh
    unfold shp at hsh
    split at hsh
    · cases hsh
    · split at hsh
      · rename_i hh; exact hh.2
      · split at hsh <;> cases hsh
  · rename_i hsh
    unfold shp at hsh
    split at hsh
    · cases hsh
    · split at hsh
      · cases hsh
      · split at hsh
        · rename_i hh; exact absurd hh.1 hne
        · cases hsh
  · cases h
/-- A node lies in the whole or in an element, and an element has no text of its own. -/
def Par (l : List Nd) : Prop := (∀ i, 0 < i → i < l.length → ∀ u : Nat, (ndAt l i).up = (u : Int) → u = 0 ∨ nmL l u ≠ []) ∧ ∀ i, i < l.length → nmL l i ≠ [] ∨ i = 0 → txL l i = []
theorem par_all : ∀ (b : List Nd) (l : List Nd) (z y : LS), Tile l z.text z.fr z.to z.op → Par l → l ≠ [] → addAll z b = some y → Par (l ++ b)
  | [], l, z, y, _, hp, _, _ => by simpa using hp
  | n :: b, l, z, y, ht, hp, hl, h => by
    unfold addAll at h
    cases he : addN z n with
    | none => rw [he] at h; simp at h
    | some x =>
      rw [he] at h
      have hlen : 0 < l.length := List.length_pos_iff.2 hl
      obtain ⟨u, hu, hm⟩ := addN_up he (by rw [ht.nf]; omega)
      have hpn : Par (l ++ [n]) := by
        refine ⟨fun i h0 hi v hv => ?_, fun i hi hc => ?_⟩
        · rw [List.length_append, List.length_singleton] at hi
          by_cases e : i = l.length
          · subst e
            rw [ndAt_new, hu] at hv
            obtain rfl : u = v := by omega
            by_cases h0 : u = 0
            · exact Or.inl h0
            · refine Or.inr ?_
              have := ht.nam u hm h0
              unfold nmL at this ⊢
              rwa [ndAt_pre n (ht.lt u hm)]
          · have hi' : i < l.length := by omega
            rw [ndAt_pre n hi'] at hv
            rcases hp.1 i h0 hi' v hv with h1 | h1
            · exact Or.inl h1
            · refine Or.inr ?_
              have hvl : v < l.length := by
                obtain ⟨u', hu', hlt, _⟩ := ht.t1 i h0 hi'
                rw [hu'] at hv; omega
              unfold nmL at h1 ⊢
              rwa [ndAt_pre n hvl]
        · rw [List.length_append, List.length_singleton] at hi
          by_cases e : i = l.length
          · subst e
            unfold txL nmL at *
            rw [ndAt_new] at hc ⊢
            exact addN_tx he (hc.resolve_right (by omega))
          · have hi' : i < l.length := by omega
            have := hp.2 i hi'
            unfold txL nmL at *
            rw [ndAt_pre n hi'] at hc ⊢
            exact this hc
      have := par_all b (l ++ [n]) x y (tile_addN ht hl he) hpn (by simp) h
      simpa using this
theorem par_lay {l : List Nd} {z : LS} (h : addAll z0 l = some z) (hl : l ≠ []) : Par l ∧ ndAt l 0 = ⟨ba [], ba [], -1⟩ := by
  match l, hl, h with
  | n :: b, _, h =>
    unfold addAll at h
    cases hn : addN z0 n with
    | none => rw [hn] at h; simp at h
    | some x =>
      rw [hn] at h
      obtain ⟨_, h1, h2⟩ := addN_first hn
      subst h1 h2
      refine ⟨?_, rfl⟩
      have := par_all b [_] _ z tile_start ⟨fun i h0 hi => by simp at hi; omega, fun i hi _ => by
        obtain rfl : i = 0 := by simp at hi; omega
        rfl⟩ (by simp) h
      simpa using this
theorem ce_set0 {l : List Nd} {fr to : List Nat} {x : Nat} (k i : Nat) : ce l fr (to.set 0 x) k i = ce l fr to k i := ce_set i (fun j _ hk _ => by omega)
theorem laid_of {l : List Nd} {y : LS} (h : layL l = some y) : Laid l y := by
  unfold layL at h
  split at h
  · cases h
  · rename_i hc
    have hl : l ≠ [] := fun e => hc (Or.inl e)
    have hl301 : l.length ≤ 301 := by
      by_cases e : l.length ≤ 301
      · exact e
      · exact absurd (Or.inr (by omega)) hc
    cases ha : addAll z0 l with
    | none => rw [ha] at h; simp at h
    | some z =>
      rw [ha] at h
      simp only [Option.bind_some] at h
      cases he : z.endInto 0 with
      | none => rw [he] at h; simp at h
      | some x =>
        rw [he] at h
        simp only [Option.bind_some] at h
        split at h
        · rename_i hd
          simp only [Option.some.injEq] at h
          obtain ⟨ht, hop⟩ := tile_lay ha hl he
          obtain ⟨hp, hn0⟩ := par_lay ha hl
          have hfz := fr_zero ha hl he
          rw [hop] at ht
          have hlen : 0 < l.length := List.length_pos_iff.2 hl
          have hfl := fl_all ht hlen hfz
          have htr := (lay_tree ha hl he).1
          subst h
          refine ⟨?_, hfl.symm, ht.nf, by simp [ht.nt], ?_, ?_, ?_, hfz, hp.2⟩
          · unfold goodT
            rw [hfl, hd, ← htr, decide_eq_true rfl]
            simp only [Bool.and_true]
            unfold shapeL
            rw [decide_eq_true (by omega), Bool.and_true]
            refine shU_of _ (fun i hi => ?_)
            unfold shOne
            by_cases e : i = 0
            · subst e; rw [hn0]; decide
            · obtain ⟨u, hu, hlt, _⟩ := ht.t1 i (by omega) hi
              rw [hu]
              simp only [Bool.and_eq_true, beq_iff_eq, decide_eq_true_eq]
              refine ⟨?_, by omega, by omega⟩
              rw [decide_eq_false e, decide_eq_false (by omega)]
          · intro k hk
            by_cases e : k = 0
            · subst e
              have : (x.to.set 0 x.text.length).getD 0 0 = x.text.length := by
                rw [List.getD_eq_getElem?_getD, List.getElem?_set_self (by rw [ht.nt]; omega)]; rfl
              simp only
              rw [this, hfz, hfl]; omega
            · have e1 : (x.to.set 0 x.text.length).getD k 0 = x.to.getD k 0 := by
                rw [List.getD_eq_getElem?_getD, List.getElem?_set_ne (by omega), ← List.getD_eq_getElem?_getD]
              simp only
              rw [e1, to_en ht (by omega) hk]
              have hs := fl_seg ht _ k (Nat.le_refl _) hk
              have hb := seg_tail ht hk
              have hge := ce_bd ht _ k (Nat.le_refl _) hk l.length (Nat.le_refl _)
              rw [hs, seg_len _ hb.2]
              have : en l x.fr x.to k = ce l x.fr x.to k l.length + (slL l k).length := rfl
              omega
          · intro k hk
            by_cases e : k = 0
            · subst e
              have : (x.to.set 0 x.text.length).getD 0 0 = x.text.length := by
                rw [List.getD_eq_getElem?_getD, List.getElem?_set_self (by rw [ht.nt]; omega)]; rfl
              simp only
              rw [this, hfz, hfl]; simp [seg]
            · have e1 : (x.to.set 0 x.text.length).getD k 0 = x.to.getD k 0 := by
                rw [List.getD_eq_getElem?_getD, List.getElem?_set_ne (by omega), ← List.getD_eq_getElem?_getD]
              simp only
              rw [e1, to_en ht (by omega) hk]
              exact (fl_seg ht _ k (Nat.le_refl _) hk).symm
          · intro i h0 hi
            obtain ⟨u, hu, hlt, hfr⟩ := ht.t1 i h0 hi
            exact ⟨u, hu, hlt, hp.1 i h0 hi u hu, by simp only; rw [ce_set0]; exact hfr⟩
        · cases h
theorem lay_good (l : List Nd) : (layL l).isSome = goodT l := by
  cases h : layL l with
  | some y => rw [(laid_of h).good]; rfl
  | none =>
    cases hg : goodT l with
    | false => rfl
    | true =>
      exfalso
      unfold goodT at hg
      simp only [Bool.and_eq_true, decide_eq_true_eq] at hg
      obtain ⟨hs, hd, ht⟩ := hg
      obtain ⟨_, h1, h2⟩ := shape_up hs
      obtain ⟨z, y, e1, e2, e3⟩ := tree_lay (ba (fl l 0)) (by rw [ba_list]; exact hd)
      rw [ba_list] at e1 e3
      rw [ht] at e1
      unfold layL at h
      rw [if_neg (by rintro (e | e); · subst e; simp at h1
                     · omega), e1] at h
      simp only [Option.bind_some] at h
      rw [e2] at h
      simp only [Option.bind_some] at h
      rw [e3, if_pos hd] at h
      cases h

/-- Where a node begins, as the model has it. -/
def befS (l : List Nd) (u k : Nat) : Nat := sF (fun i => if (ndAt l i).up = (u : Int) then (fl l i).length else 0) (u + 1) (k - (u + 1))
theorem ce_bef {l : List Nd} {y : LS} (h : Laid l y) {u : Nat} (hu : u = 0 ∨ nmL l u ≠ []) (hul : u < l.length) : ∀ d, u + 1 + d ≤ l.length → ce l y.fr y.to u (u + 1 + d) = y.fr.getD u 0 + (nmL l u).length + befS l u (u + 1 + d)
  | 0, _ => by
    have htx := h.tx u hul (hu.symm)
    rw [ce_none (u + 1 + 0) 0 (by omega) (fun m h1 h2 h3 => by omega)]
    unfold ce befS
    rw [htx, show u + 1 + 0 - (u + 1) = 0 by omega]
    simp [sF]
  | d + 1, hd => by
    have ih := ce_bef h hu hul d (by omega)
    have eb : befS l u (u + 1 + (d + 1)) = befS l u (u + 1 + d) + (if (ndAt l (u + 1 + d)).up = (u : Int) then (fl l (u + 1 + d)).length else 0) := by
      unfold befS
      rw [show u + 1 + (d + 1) - (u + 1) = d + 1 by omega, show u + 1 + d - (u + 1) = d by omega, sF_snoc]
    rw [eb, show u + 1 + (d + 1) = (u + 1 + d) + 1 by omega]
    unfold ce
    by_cases e : (ndAt l (u + 1 + d)).up = (u : Int)
    · rw [if_pos ⟨by omega, e⟩, if_pos e]
      obtain ⟨v, hv, hlt, _, hfr⟩ := h.up (u + 1 + d) (by omega) (by omega)
      obtain rfl : v = u := by rw [hv] at e; omega
      rw [(h.seg _ (by omega)).1, hfr, ih]
      omega
    · rw [if_neg (fun c => e c.2), if_neg e, ih]; omega
theorem fr_bef {l : List Nd} {y : LS} (h : Laid l y) {k : Nat} (h0 : 0 < k) (hk : k < l.length) : ∃ u : Nat, (ndAt l k).up = (u : Int) ∧ u < k ∧ y.fr.getD k 0 = y.fr.getD u 0 + (nmL l u).length + befS l u k := by
  obtain ⟨u, hu, hlt, hp, hfr⟩ := h.up k h0 hk
  refine ⟨u, hu, hlt, ?_⟩
  have := ce_bef h hp (by omega) (k - (u + 1)) (by omega)
  rw [show u + 1 + (k - (u + 1)) = k by omega] at this
  rw [hfr, this]
end Go.Proofs.YtmjehpigfkobeabDoor.Doc1

namespace Go.Proofs.YtmjehpigfkobeabDoor.Doc1

theorem addN_fr {z y : LS} {n : Nd} (h : addN z n = some y) : y.fr.length = z.fr.length + 1 := by
  unfold addN at h
  split at h
  · split at h
    · cases h; simp [LS.push, LS.write]
    · cases h
  · cases he : z.endInto n.up with
    | none => rw [he] at h; simp at h
    | some x =>
      rw [he] at h
      simp only [Option.map_some, Option.some.injEq] at h
      subst h
      have := (endI_mem n.up _ _ _ _ x he).2.1
      simp [LS.push, LS.write, this]
  · cases he : z.endInto n.up with
    | none => rw [he] at h; simp at h
    | some x =>
      rw [he] at h
      simp only [Option.bind_some] at h
      split at h
      · cases h
      · simp only [Option.some.injEq] at h
        subst h
        have := (endI_mem n.up _ _ _ _ x he).2.1
        simp [LS.write, this]
  · cases h
/-- What a node within is: an element or a run. -/
def Within (n : Nd) : Prop := (isNm n.name.data.toList = true ∧ n.text.data.toList = []) ∨ (n.name.data.toList = [] ∧ isRn n.text.data.toList = true)
theorem addN_within {z y : LS} {n : Nd} (h : addN z n = some y) (h0 : z.fr.length ≠ 0) : Within n := by
  unfold addN at h
  split at h
  · rw [if_neg h0] at h; cases h
  · rename_i hsh
    unfold shp at hsh
    split at hsh
    · cases hsh
    · split at hsh
      · rename_i hh; exact Or.inl hh
      · split at hsh <;> cases hsh
  · rename_i hsh
    unfold shp at hsh
    split at hsh
    · cases hsh
    · split at hsh
      · cases hsh
      · split at hsh
        · rename_i hh; exact Or.inr hh
        · cases hsh
  · cases h
theorem addAll_within : ∀ (b : List Nd) (z y : LS), z.fr.length ≠ 0 → addAll z b = some y → ∀ n ∈ b, Within n
  | [], _, _, _, _, n, hn => by cases hn
  | m :: b, z, y, h0, h, n, hn => by
    unfold addAll at h
    cases he : addN z m with
    | none => rw [he] at h; simp at h
    | some x =>
      rw [he] at h
      rcases List.mem_cons.1 hn with rfl | hn
      · exact addN_within he h0
      · exact addAll_within b x y (by rw [addN_fr he]; omega) h n hn
theorem lay_within {l : List Nd} {y : LS} (h : layL l = some y) : ∀ i, 0 < i → i < l.length → Within (ndAt l i) := by
  unfold layL at h
  split at h
  · cases h
  · rename_i hc
    cases ha : addAll z0 l with
    | none => rw [ha] at h; simp at h
    | some z =>
      match l, ha, hc with
      | [], _, hc => exact absurd (Or.inl rfl) hc
      | n :: b, ha, _ =>
        unfold addAll at ha
        cases hn : addN z0 n with
        | none => rw [hn] at ha; simp at ha
        | some x =>
          rw [hn] at ha
          intro i h0 hi
          have hm := addAll_within b x z (by rw [addN_fr hn]; simp) ha
          obtain ⟨j, rfl⟩ : ∃ j, i = j + 1 := ⟨i - 1, by omega⟩
          have hj : j < b.length := by simpa using hi
          have : ndAt (n :: b) (j + 1) = b[j] := by unfold ndAt; rw [List.getD_eq_getElem?_getD, List.getElem?_cons_succ, List.getElem?_eq_getElem hj]; rfl
          rw [this]
          exact hm _ (List.getElem_mem hj)

/-- A stretch that can be cut out wherever it stands. -/
def Bal (b : List UInt8) : Prop := ∀ r d, rn (b ++ r) d = true → rn r d = true
theorem bal_nil : Bal [] := fun _ _ h => h
theorem bal_app {a b : List UInt8} (ha : Bal a) (hb : Bal b) : Bal (a ++ b) := fun r d h => hb r d (ha _ d (by rw [List.append_assoc] at h; exact h))
theorem bal_flat {α : Type} (f : α → List UInt8) : ∀ l : List α, (∀ x ∈ l, Bal (f x)) → Bal (l.flatMap f)
  | [], _ => bal_nil
  | x :: l, h => by
    rw [List.flatMap_cons]
    exact bal_app (h x (by simp)) (bal_flat f l (fun y hy => h y (by simp [hy])))
theorem dl_pl0 {c : UInt8} (h : plB c = true) : dl c = 0 := by simp [dl, op_of_pl h, en_of_pl h]
theorem bal_run : ∀ l : List UInt8, l.all plB = true → Bal l
  | [], _ => bal_nil
  | c :: l, h => by
    simp only [List.all_cons, Bool.and_eq_true] at h
    intro r d hr
    rw [List.cons_append] at hr
    unfold rn at hr
    simp only [Bool.and_eq_true] at hr
    rw [dl_pl0 h.1, Int.add_zero] at hr
    exact bal_run l h.2 r d hr.2
theorem bal_elem {c : UInt8} (hc : opB c = true) {b : List UInt8} (hb : Bal b) : Bal ([c] ++ b ++ [slash]) := by
  intro r d h
  simp only [List.cons_append, List.append_assoc] at h
  unfold rn at h
  simp only [Bool.and_eq_true] at h
  have h2 := hb _ _ h.2
  unfold rn at h2
  simp only [Bool.and_eq_true] at h2
  have e1 : dl c = 1 := by simp [dl, hc]
  have e2 : dl slash = -1 := by decide
  rw [e1, e2] at h2
  have := h2.2
  simp only [List.nil_append] at this
  rw [show d + 1 + -1 = d by omega] at this
  exact this
theorem bal_fl {l : List Nd} (hw : ∀ i, 0 < i → i < l.length → Within (ndAt l i)) : ∀ (d k : Nat), l.length - k ≤ d → 0 < k → k < l.length → Bal (fl l k)
  | 0, k, hd, _, hk => by omega
  | d + 1, k, hd, h0, hk => by
    rw [fl_eq]
    have hkids : Bal ((kids l k).flatMap (fl l)) := bal_flat _ _ (fun x hx => by
      obtain ⟨h1, h2, _⟩ := kidsU_mem l.length hx
      exact bal_fl hw d x (by omega) (by omega) h2)
    rcases hw k h0 hk with ⟨hn, ht⟩ | ⟨hn, ht⟩
    · obtain ⟨c, hc, ho⟩ := nm_of hn
      have e1 : nmL l k = [c] := hc
      have e2 : txL l k = [] := ht
      have e3 : slL l k = [slash] := by unfold slL; rw [e1]; simp
      rw [e1, e2, e3, List.nil_append]
      exact bal_elem ho hkids
    · have e1 : nmL l k = [] := hn
      have e3 : slL l k = [] := by unfold slL; rw [e1]; simp
      rw [e1, e3, List.nil_append, List.append_nil]
      refine bal_app (bal_run _ ?_) hkids
      unfold isRn at ht
      simp only [Bool.and_eq_true] at ht
      exact ht.2
theorem rn_pre {x y : List UInt8} (h : ∀ d, rn x d = true → rn y d = true) : ∀ (a : List UInt8) (d : Int), rn (a ++ x) d = true → rn (a ++ y) d = true
  | [], d, hr => h d hr
  | c :: a, d, hr => by
    rw [List.cons_append] at hr ⊢
    unfold rn at hr ⊢
    simp only [Bool.and_eq_true] at hr ⊢
    exact ⟨hr.1, rn_pre h a _ hr.2⟩
theorem doc_cut {a b r : List UInt8} (hb : Bal b) (h : doc (a ++ b ++ r) = true) : doc (a ++ r) = true := by
  unfold doc good at h ⊢
  simp only [Bool.and_eq_true, decide_eq_true_eq] at h ⊢
  obtain ⟨⟨h1, h2⟩, h3⟩ := h
  refine ⟨⟨?_, by simp at h2 ⊢; omega⟩, ?_⟩
  · unfold allOk at h1 ⊢
    simp only [List.all_append, Bool.and_eq_true] at h1 ⊢
    exact ⟨h1.1.1, h1.2⟩
  · rw [List.append_assoc] at h3
    exact rn_pre (fun d => hb r d) a 0 h3
/-- The text without a node. -/
def cutT (y : LS) (k : Nat) : List UInt8 := y.text.take (y.fr.getD k 0) ++ y.text.drop (y.to.getD k 0)
theorem cut_doc {l : List Nd} {y : LS} (h : layL l = some y) {k : Nat} (h0 : 0 < k) (hk : k < l.length) : doc (cutT y k) = true := by
  have hl := laid_of h
  have hg := hl.good
  unfold goodT at hg
  simp only [Bool.and_eq_true] at hg
  obtain ⟨e1, e2⟩ := hl.seg k hk
  have hb := bal_fl (lay_within h) _ k (Nat.le_refl _) h0 hk
  have hd : doc y.text = true := by rw [hl.text]; exact hg.2.1
  -- the stretch itself
  have hsplit : y.text = y.text.take (y.fr.getD k 0) ++ seg y.text (y.fr.getD k 0) (y.to.getD k 0) ++ y.text.drop (y.to.getD k 0) := by
    unfold seg
    have h3 : y.text.drop (y.to.getD k 0) = (y.text.drop (y.fr.getD k 0)).drop (y.to.getD k 0 - y.fr.getD k 0) := by rw [List.drop_drop]; congr 1; omega
    rw [h3, List.append_assoc, List.take_append_drop, List.take_append_drop]
  have hseg : seg y.text (y.fr.getD k 0) (y.to.getD k 0) = fl l k := hl.is k hk
  rw [hseg] at hsplit
  rw [hsplit] at hd
  exact doc_cut hb hd
end Go.Proofs.YtmjehpigfkobeabDoor.Doc1
