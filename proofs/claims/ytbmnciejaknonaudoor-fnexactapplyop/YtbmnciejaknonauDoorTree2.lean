/- The plain mathematics of chapter 2, on: how a tree is laid out into a text; that just the trees of documents can be. -/
import Derived.Test.YtbmnciejaknonauDoorTree1
namespace Go.Proofs.YtbmnciejaknonauDoor.Doc1

/-- What is laid out so far: the text, where nodes begin and end, the nodes that are open (the innermost first). -/
structure LS where
  text : List UInt8
  fr : List Nat
  to : List Nat
  op : List Nat

def slash : UInt8 := 47
theorem slash_en : enB slash = true := by decide
theorem slash_pl : plB slash = false := by decide

/-- One element ends. -/
def LS.pop (z : LS) (o : Nat) (r : List Nat) : LS := ⟨z.text ++ [slash], z.fr, z.to.set o (z.text.length + 1), r⟩
def endI (text : List UInt8) (fr to : List Nat) : List Nat → Int → Option LS
  | [], _ => none
  | o :: r, u => if (o : Int) = u then some ⟨text, fr, to, o :: r⟩ else endI (text ++ [slash]) fr (to.set o (text.length + 1)) r u
def LS.endInto (z : LS) (u : Int) : Option LS := endI z.text z.fr z.to z.op u
def LS.push (z : LS) : LS := ⟨z.text, z.fr, z.to, z.fr.length :: z.op⟩
def LS.write (z : LS) (h : List UInt8) : LS := ⟨z.text ++ h, z.fr ++ [z.text.length], z.to ++ [z.text.length + h.length], z.op⟩
def endsPl (t : List UInt8) : Bool := match t.getLast? with | some c => plB c | none => false
def isNm (s : List UInt8) : Bool := match s with | [c] => opB c | _ => false
def isRn (s : List UInt8) : Bool := !s.isEmpty && decide (s.length ≤ 300) && s.all plB
inductive Sh | whole | elem | run | none
def shp (n : Nd) : Sh :=
  if n.name.data.toList = [] ∧ n.text.data.toList = [] ∧ n.up = -1 then .whole
  else if isNm n.name.data.toList ∧ n.text.data.toList = [] then .elem
  else if n.name.data.toList = [] ∧ isRn n.text.data.toList then .run
  else .none
def addN (z : LS) (n : Nd) : Option LS :=
  match shp n with
  | .whole => if z.fr.length = 0 then some (z.push.write []) else none
  | .elem => (z.endInto n.up).map fun y => y.push.write n.name.data.toList
  | .run => (z.endInto n.up).bind fun y => if endsPl y.text then none else some (y.write n.text.data.toList)
  | .none => none
def addAll : LS → List Nd → Option LS
  | z, [] => some z
  | z, n :: l => (addN z n).bind fun y => addAll y l
def z0 : LS := ⟨[], [], [], []⟩
theorem addAll_app (z : LS) (a b : List Nd) : addAll z (a ++ b) = (addAll z a).bind fun y => addAll y b := by
  induction a generalizing z with
  | nil => rfl
  | cons n a ih =>
    simp only [List.cons_append, addAll]
    cases addN z n with
    | none => rfl
    | some y => exact ih y
theorem addAll_snoc (z : LS) (a : List Nd) (n : Nd) : addAll z (a ++ [n]) = (addAll z a).bind fun y => addN y n := by
  rw [addAll_app]
  cases addAll z a with
  | none => rfl
  | some y =>
    show addAll y [n] = addN y n
    unfold addAll
    cases addN y n <;> rfl

/-- What was laid out tells its nodes again. -/
structure Sim (z : LS) (l : List Nd) : Prop where
  out : (feed pin z.text).out = l
  st : (feed pin z.text).st = z.op
  r : (feed pin z.text).r = [] ↔ endsPl z.text = false
  len : z.fr.length = l.length
theorem endsPl_snoc (t : List UInt8) (c : UInt8) : endsPl (t ++ [c]) = plB c := by simp [endsPl]
theorem endI_sim (l : List Nd) (u : Int) : ∀ (op : List Nat) (text : List UInt8) (fr to : List Nat) (y : LS), Sim ⟨text, fr, to, op⟩ l → endI text fr to op u = some y → Sim y l ∧ (∃ o r, y.op = o :: r ∧ (o : Int) = u)
  | [], _, _, _, _, _, h => by simp [endI] at h
  | o :: r, text, fr, to, y, hs, h => by
    unfold endI at h
    split at h
    · rename_i he
      cases h
      exact ⟨hs, o, r, rfl, he⟩
    · refine endI_sim l u r _ _ _ y ?_ h
      have e := feed_snoc pin text slash
      rw [pst_en _ slash_en] at e
      refine ⟨?_, ?_, ?_, hs.len⟩
      · show (feed pin (text ++ [slash])).out = l
        rw [e, out_nil _ rfl]; exact hs.out
      · show (feed pin (text ++ [slash])).st = r
        have := hs.st
        rw [e]
        show ((feed pin text).st).tail = r
        have hst : (feed pin text).st = o :: r := hs.st
        rw [hst]; rfl
      · show (feed pin (text ++ [slash])).r = [] ↔ endsPl (text ++ [slash]) = false
        rw [e, endsPl_snoc]; simp [slash_pl]
theorem nm_of {s : List UInt8} (h : isNm s = true) : ∃ c, s = [c] ∧ opB c = true := by
  match s, h with
  | [c], h => exact ⟨c, rfl, h⟩
theorem endsPl_run (t s : List UInt8) (h : isRn s = true) : endsPl (t ++ s) = true := by
  unfold isRn at h
  simp only [Bool.and_eq_true, Bool.not_eq_true', List.isEmpty_eq_false_iff, List.all_eq_true] at h
  obtain ⟨⟨h1, _⟩, h2⟩ := h
  unfold endsPl
  rw [List.getLast?_append, List.getLast?_eq_some_getLast h1]
  exact h2 _ (List.getLast_mem h1)
theorem nd_eq (n : Nd) (a b : List UInt8) (h1 : n.name.data.toList = a) (h2 : n.text.data.toList = b) : (⟨ba a, ba b, n.up⟩ : Nd) = n := by
  subst h1 h2; rw [ba_of, ba_of]
theorem addN_sim {z y : LS} {l : List Nd} {n : Nd} (hs : Sim z l) (hl : l ≠ []) (h : addN z n = some y) : Sim y (l ++ [n]) := by
  unfold addN at h
  split at h
  · split at h
    · rename_i h0
      have := hs.len
      rw [h0] at this
      exact absurd (List.length_eq_zero_iff.1 this.symm) hl
    · cases h
  · rename_i hsh
    have hsn : isNm n.name.data.toList = true ∧ n.text.data.toList = [] := by
      unfold shp at hsh
      split at hsh
      · cases hsh
      · split at hsh
        · assumption
        · split at hsh <;> cases hsh
    cases he : z.endInto n.up with
    | none => rw [he] at h; simp at h
    | some x =>
      rw [he] at h
      simp only [Option.map_some, Option.some.injEq] at h
      subst h
      obtain ⟨hx, o, r, hop, hou⟩ := endI_sim l n.up _ _ _ _ x hs he
      obtain ⟨c, hc, ho⟩ := nm_of hsn.1
      have e := feed_snoc pin x.text c
      rw [pst_op _ ho] at e
      have hup : (feed pin x.text).up = n.up := by rw [PS.up, hx.st, hop]; exact hou
      rw [hx.out, hup, hx.st] at e
      refine ⟨?_, ?_, ?_, ?_⟩
      · show (feed pin (x.text ++ n.name.data.toList)).out = _
        rw [hc, e]; simp only [PS.out, if_pos]; rw [nd_eq n _ _ hc hsn.2]
      · show (feed pin (x.text ++ n.name.data.toList)).st = x.fr.length :: x.op
        rw [hc, e, hx.len]
      · show (feed pin (x.text ++ n.name.data.toList)).r = [] ↔ endsPl (x.text ++ n.name.data.toList) = false
        rw [hc, e, endsPl_snoc]
        have := (sep c).1
        rw [ho] at this
        simp at this
        simp [this]
      · show (x.fr ++ [x.text.length]).length = _
        simp [hx.len]
  · rename_i hsh
    have hsn : n.name.data.toList = [] ∧ isRn n.text.data.toList = true := by
      unfold shp at hsh
      split at hsh
      · cases hsh
      · split at hsh
        · cases hsh
        · split at hsh
          · assumption
          · cases hsh
    cases he : z.endInto n.up with
    | none => rw [he] at h; simp at h
    | some x =>
      rw [he] at h
      simp only [Option.bind_some] at h
      split at h
      · cases h
      · rename_i hpl
        simp only [Option.some.injEq] at h
        subst h
        obtain ⟨hx, o, r, hop, hou⟩ := endI_sim l n.up _ _ _ _ x hs he
        have hr : (feed pin x.text).r = [] := hx.r.2 (by simpa using hpl)
        have hall : n.text.data.toList.all plB = true := by have := hsn.2; unfold isRn at this; simp only [Bool.and_eq_true] at this; exact this.2
        have hne : n.text.data.toList ≠ [] := by have := hsn.2; unfold isRn at this; simp only [Bool.and_eq_true, Bool.not_eq_true', List.isEmpty_eq_false_iff] at this; exact this.1.1
        have e : feed pin (x.text ++ n.text.data.toList) = ⟨(feed pin x.text).l, x.op, n.text.data.toList⟩ := by
          rw [feed_app, feed_run _ _ hall, hr, hx.st]; rfl
        have hol : (feed pin x.text).l = l := by rw [← out_nil _ hr]; exact hx.out
        rw [hol] at e
        refine ⟨?_, ?_, ?_, ?_⟩
        · show (feed pin (x.text ++ n.text.data.toList)).out = _
          rw [e]; simp only [PS.out, if_neg hne, PS.up, hop]
          rw [show ((List.headD (o :: r) 0 : Nat) : Int) = n.up from hou, nd_eq n _ _ hsn.1 rfl]
        · show (feed pin (x.text ++ n.text.data.toList)).st = x.op
          rw [e]
        · show (feed pin (x.text ++ n.text.data.toList)).r = [] ↔ endsPl (x.text ++ n.text.data.toList) = false
          rw [e, endsPl_run _ _ hsn.2]; simp [hne]
        · show (x.fr ++ [x.text.length]).length = _
          simp [hx.len]
  · cases h
theorem addN_first {y : LS} {n : Nd} (h : addN z0 n = some y) : Sim y [n] ∧ n = ⟨ba [], ba [], -1⟩ ∧ y = ⟨[], [0], [0], [0]⟩ := by
  unfold addN at h
  split at h
  · rename_i hsh
    have hsn : n.name.data.toList = [] ∧ n.text.data.toList = [] ∧ n.up = -1 := by
      unfold shp at hsh
      split at hsh
      · assumption
      · split at hsh
        · cases hsh
        · split at hsh <;> cases hsh
    have hn : n = ⟨ba [], ba [], -1⟩ := by rw [← nd_eq n _ _ hsn.1 hsn.2.1, hsn.2.2]
    simp [z0, LS.push, LS.write] at h
    subst h
    subst hn
    exact ⟨⟨rfl, rfl, by simp [feed, pin, endsPl], rfl⟩, rfl, rfl⟩
  · simp [z0, LS.endInto, endI] at h
  · simp [z0, LS.endInto, endI] at h
  · cases h
theorem addAll_sim : ∀ (b : List Nd) (z y : LS) (l : List Nd), Sim z l → l ≠ [] → addAll z b = some y → Sim y (l ++ b)
  | [], z, y, l, hs, _, h => by
    simp [addAll] at h; subst h; simpa using hs
  | n :: b, z, y, l, hs, hl, h => by
    unfold addAll at h
    cases he : addN z n with
    | none => rw [he] at h; simp at h
    | some x =>
      rw [he] at h
      have := addAll_sim b x y (l ++ [n]) (addN_sim hs hl he) (by simp) h
      simpa using this
/-- Z: what can be laid out is the tree of its text. -/
theorem lay_tree {l : List Nd} {z y : LS} (h : addAll z0 l = some z) (hl : l ≠ []) (he : z.endInto 0 = some y) : l = tree y.text ∧ Sim y l := by
  match l, hl, h with
  | n :: b, _, h =>
    unfold addAll at h
    cases hn : addN z0 n with
    | none => rw [hn] at h; simp at h
    | some x =>
      rw [hn] at h
      have hx := (addN_first hn).1
      have hs : Sim z (n :: b) := addAll_sim b x z [n] hx (by simp) h
      have hy := (endI_sim _ 0 _ _ _ _ y hs he).1
      exact ⟨hy.out.symm, hy⟩
end Go.Proofs.YtbmnciejaknonauDoor.Doc1
