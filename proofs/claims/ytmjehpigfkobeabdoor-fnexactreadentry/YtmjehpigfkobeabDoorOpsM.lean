/- The plain mathematics of chapter 3: parts. The plain mathematics of chapter 3: which parts and which changes are good, and how many bytes a change takes and makes. The plain mathematics of chapter 3, on: a change byte by byte, and how its steps are gathered into a normal change. The plain mathematics of chapter 3, on: what a gathering takes and makes, and when it is good. The plain mathematics of chapter 3, on: a change done to a text, byte by byte. -/
import Derived.Test.YtmjehpigfkobeabDoorTreeM
namespace Go.Proofs.YtmjehpigfkobeabDoor.Doc1

/-- A part of a change. -/
structure Pt where
  keep : Int
  put : ByteArray
  drop : ByteArray
  deriving DecidableEq
end Go.Proofs.YtmjehpigfkobeabDoor.Doc1

namespace Go.Proofs.YtmjehpigfkobeabDoor.Doc1

def Pt.putL (p : Pt) : List UInt8 := p.put.data.toList
def Pt.dropL (p : Pt) : List UInt8 := p.drop.data.toList
/-- The kind of a part: 1 it keeps, 2 it puts, 3 it drops, 0 it is not good. -/
def pk (p : Pt) : Nat :=
  if p.put.data.toList = [] ∧ p.drop.data.toList = [] ∧ 1 ≤ p.keep ∧ p.keep ≤ 300 then 1
  else if p.keep = 0 ∧ p.drop.data.toList = [] ∧ p.put.data.toList ≠ [] ∧ good p.put.data.toList = true then 2
  else if p.keep = 0 ∧ p.put.data.toList = [] ∧ p.drop.data.toList ≠ [] ∧ good p.drop.data.toList = true then 3
  else 0
/-- A good part, as the model has it. -/
def gp (p : Pt) : Bool :=
  if p.keep ≠ 0 then decide (1 ≤ p.keep ∧ p.keep ≤ 300) && (decide (p.put.data.toList = []) && decide (p.drop.data.toList = []))
  else if p.put.data.toList ≠ [] then decide (p.drop.data.toList = []) && good p.put.data.toList
  else decide (p.drop.data.toList ≠ []) && good p.drop.data.toList
theorem gp_pk (p : Pt) : gp p = decide (pk p ≠ 0) := by
  unfold gp pk
  by_cases h0 : p.keep = 0
  · by_cases h1 : p.put.data.toList = []
    · by_cases h2 : p.drop.data.toList = []
      · simp [h0, h1, h2]
      · simp [h0, h1, h2]
    · by_cases h2 : p.drop.data.toList = []
      · simp [h0, h1, h2]
      · simp [h0, h1, h2]
  · by_cases h1 : p.put.data.toList = []
    · by_cases h2 : p.drop.data.toList = []
      · by_cases h3 : 1 ≤ p.keep ∧ p.keep ≤ 300
        · simp [h0, h1, h2, h3]
        · simp [h0, h1, h2, h3]
      · simp [h0, h1, h2]
    · simp [h0, h1]
/-- What a part takes and makes. -/
def tk1 (p : Pt) : Int := p.keep + (p.drop.size : Int)
def mk1 (p : Pt) : Int := p.keep + (p.put.size : Int)
def tkL (l : List Pt) : Int := (l.map tk1).sum
def mkL (l : List Pt) : Int := (l.map mk1).sum
def goodO (l : List Pt) : Bool := decide (l.length ≤ 60) && (l.all gp && (decide (tkL l ≤ 300) && decide (mkL l ≤ 300)))
theorem tkL_snoc (l : List Pt) (p : Pt) : tkL (l ++ [p]) = tkL l + tk1 p := by simp [tkL]
theorem mkL_snoc (l : List Pt) (p : Pt) : mkL (l ++ [p]) = mkL l + mk1 p := by simp [mkL]
theorem good_len {a : List UInt8} (h : good a = true) : a.length ≤ 300 := by unfold good at h; simp only [Bool.and_eq_true, decide_eq_true_eq] at h; exact h.2
theorem sz_list (s : ByteArray) : s.size = s.data.toList.length := by simp
theorem pk_bd {p : Pt} (h : pk p ≠ 0) : (0 ≤ tk1 p ∧ tk1 p ≤ 300) ∧ (0 ≤ mk1 p ∧ mk1 p ≤ 300) := by
  unfold pk at h
  unfold tk1 mk1
  rw [sz_list, sz_list]
  split at h
  · rename_i hh
    rw [hh.1, hh.2.1]; simp; omega
  · split at h
    · rename_i hh
      have := good_len hh.2.2.2
      rw [hh.1, hh.2.1]; simp only [List.length_nil]; omega
    · split at h
      · rename_i hh
        have := good_len hh.2.2.2
        rw [hh.1, hh.2.1]; simp only [List.length_nil]; omega
      · exact absurd rfl h
theorem all_bd (l : List Pt) (h : ∀ p ∈ l, pk p ≠ 0) : (0 ≤ tkL l ∧ tkL l ≤ 300 * l.length) ∧ (0 ≤ mkL l ∧ mkL l ≤ 300 * l.length) := by
  induction l with
  | nil => simp [tkL, mkL]
  | cons p l ih =>
    have h1 := pk_bd (h p (by simp))
    have h2 := ih (fun q hq => h q (by simp [hq]))
    have e1 : tkL (p :: l) = tk1 p + tkL l := by simp [tkL]
    have e2 : mkL (p :: l) = mk1 p + mkL l := by simp [mkL]
    rw [e1, e2]
    simp only [List.length_cons]
    omega
theorem goodO_no_len {l : List Pt} (h : ¬ l.length ≤ 60) : goodO l = false := by unfold goodO; rw [decide_eq_false h]; rfl
theorem goodO_no_at {l : List Pt} {i : Nat} (hi : i < l.length) (h : gp l[i] = false) : goodO l = false := by
  unfold goodO
  have : l.all gp = false := by
    rw [List.all_eq_false]
    exact ⟨l[i], List.getElem_mem hi, by rw [h]; simp⟩
  rw [this]; simp
theorem goodO_sums {l : List Pt} (h1 : l.length ≤ 60) (h2 : l.all gp = true) : goodO l = decide (tkL l ≤ 300 ∧ mkL l ≤ 300) := by
  unfold goodO
  rw [decide_eq_true h1, h2, Bool.true_and, Bool.true_and, Bool.decide_and]
end Go.Proofs.YtmjehpigfkobeabDoor.Doc1

namespace Go.Proofs.YtmjehpigfkobeabDoor.Doc1

/-- What a change does to one byte: its kind, and the byte (of one that is kept none is known). -/
structure St where
  k : Nat
  c : UInt8
  deriving DecidableEq

def kp (n : Nat) : Pt := ⟨(n : Int), ba [], ba []⟩
def pp (b : List UInt8) : Pt := ⟨0, ba b, ba []⟩
def dp (b : List UInt8) : Pt := ⟨0, ba [], ba b⟩
/-- A part's steps, of a good part. -/
def stp (p : Pt) : List St := List.replicate p.keep.toNat ⟨1, 0⟩ ++ (p.put.data.toList.map (fun c => ⟨2, c⟩) ++ p.drop.data.toList.map (fun c => ⟨3, c⟩))
def stL (l : List Pt) : List St := l.flatMap stp

/-- What is gathered so far. -/
structure Gs where
  parts : List Pt
  keep : Nat
  put : List UInt8
  drop : List UInt8

def Gs.endK (g : Gs) : Gs := ⟨g.parts ++ (if 0 < g.keep then [kp g.keep] else []), 0, g.put, g.drop⟩
def Gs.endC (g : Gs) : Gs := ⟨g.parts ++ ((if g.put = [] then [] else [pp g.put]) ++ (if g.drop = [] then [] else [dp g.drop])), g.keep, [], []⟩
def Gs.add (g : Gs) (x : St) : Gs :=
  if x.k = 1 then ⟨g.endC.parts, g.keep + 1, [], []⟩
  else if x.k = 2 then ⟨g.endK.parts, 0, g.put ++ [x.c], g.drop⟩
  else if x.k = 3 then ⟨g.endK.parts, 0, g.put, g.drop ++ [x.c]⟩
  else g
def Gs.out (g : Gs) : List Pt := g.endK.endC.parts
def gath (g : Gs) (l : List St) : Gs := l.foldl Gs.add g
def g0 : Gs := ⟨[], 0, [], []⟩
theorem gath_app (g : Gs) (a b : List St) : gath g (a ++ b) = gath (gath g a) b := List.foldl_append
theorem out_eq (g : Gs) : g.out = g.parts ++ ((if 0 < g.keep then [kp g.keep] else []) ++ ((if g.put = [] then [] else [pp g.put]) ++ (if g.drop = [] then [] else [dp g.drop]))) := by
  unfold Gs.out Gs.endK Gs.endC
  simp only [List.append_assoc]

/-- How the gathering stands between two steps. -/
structure GI (g : Gs) : Prop where
  a : 0 < g.keep → g.put = [] ∧ g.drop = []
  b : g.keep = 0 → g.parts = [] ∨ ∃ r n, g.parts = r ++ [kp n] ∧ 0 < n
  c : g.keep = 0 → g.put = [] → g.drop = [] → g.parts = []
theorem gi0 : GI g0 := ⟨fun h => by simp [g0] at h, fun _ => Or.inl rfl, fun _ _ _ => rfl⟩

theorem gath_put {g : Gs} : ∀ b : List UInt8, b ≠ [] → gath g (b.map (fun c => (⟨2, c⟩ : St))) = ⟨g.endK.parts, 0, g.put ++ b, g.drop⟩ := by
  have key : ∀ (b : List UInt8) (P : List Pt) (x y : List UInt8), gath ⟨P, 0, x, y⟩ (b.map (fun c => (⟨2, c⟩ : St))) = ⟨P, 0, x ++ b, y⟩ := by
    intro b
    induction b with
    | nil => intro P x y; simp [gath]
    | cons c b ih =>
      intro P x y
      have e : gath ⟨P, 0, x, y⟩ ((c :: b).map (fun c => (⟨2, c⟩ : St))) = gath (Gs.add ⟨P, 0, x, y⟩ ⟨2, c⟩) (b.map (fun c => (⟨2, c⟩ : St))) := rfl
      have e2 : Gs.add ⟨P, 0, x, y⟩ ⟨2, c⟩ = ⟨P, 0, x ++ [c], y⟩ := by simp [Gs.add, Gs.endK]
      rw [e, e2, ih]; simp
  intro b hb
  cases b with
  | nil => exact absurd rfl hb
  | cons c b =>
    have e : gath g ((c :: b).map (fun c => (⟨2, c⟩ : St))) = gath (Gs.add g ⟨2, c⟩) (b.map (fun c => (⟨2, c⟩ : St))) := rfl
    have e2 : Gs.add g ⟨2, c⟩ = ⟨g.endK.parts, 0, g.put ++ [c], g.drop⟩ := by simp [Gs.add]
    rw [e, e2, key]; simp
theorem gath_drop {g : Gs} : ∀ b : List UInt8, b ≠ [] → gath g (b.map (fun c => (⟨3, c⟩ : St))) = ⟨g.endK.parts, 0, g.put, g.drop ++ b⟩ := by
  have key : ∀ (b : List UInt8) (P : List Pt) (x y : List UInt8), gath ⟨P, 0, x, y⟩ (b.map (fun c => (⟨3, c⟩ : St))) = ⟨P, 0, x, y ++ b⟩ := by
    intro b
    induction b with
    | nil => intro P x y; simp [gath]
    | cons c b ih =>
      intro P x y
      have e : gath ⟨P, 0, x, y⟩ ((c :: b).map (fun c => (⟨3, c⟩ : St))) = gath (Gs.add ⟨P, 0, x, y⟩ ⟨3, c⟩) (b.map (fun c => (⟨3, c⟩ : St))) := rfl
      have e2 : Gs.add ⟨P, 0, x, y⟩ ⟨3, c⟩ = ⟨P, 0, x, y ++ [c]⟩ := by simp [Gs.add, Gs.endK]
      rw [e, e2, ih]; simp
  intro b hb
  cases b with
  | nil => exact absurd rfl hb
  | cons c b =>
    have e : gath g ((c :: b).map (fun c => (⟨3, c⟩ : St))) = gath (Gs.add g ⟨3, c⟩) (b.map (fun c => (⟨3, c⟩ : St))) := rfl
    have e2 : Gs.add g ⟨3, c⟩ = ⟨g.endK.parts, 0, g.put, g.drop ++ [c]⟩ := by simp [Gs.add]
    rw [e, e2, key]; simp
theorem gath_keep {g : Gs} : ∀ n : Nat, 0 < n → gath g (List.replicate n ⟨1, 0⟩) = ⟨g.endC.parts, g.keep + n, [], []⟩ := by
  have key : ∀ (n : Nat) (P : List Pt) (k : Nat), gath ⟨P, k, [], []⟩ (List.replicate n ⟨1, 0⟩) = ⟨P, k + n, [], []⟩ := by
    intro n
    induction n with
    | zero => intro P k; simp [gath]
    | succ n ih =>
      intro P k
      have e : gath ⟨P, k, [], []⟩ (List.replicate (n + 1) ⟨1, 0⟩) = gath (Gs.add ⟨P, k, [], []⟩ ⟨1, 0⟩) (List.replicate n ⟨1, 0⟩) := rfl
      have e2 : Gs.add ⟨P, k, [], []⟩ ⟨1, 0⟩ = ⟨P, k + 1, [], []⟩ := by simp [Gs.add, Gs.endC]
      rw [e, e2, ih]
      congr 1
      omega
  intro n hn
  cases n with
  | zero => omega
  | succ n =>
    have e : gath g (List.replicate (n + 1) ⟨1, 0⟩) = gath (Gs.add g ⟨1, 0⟩) (List.replicate n ⟨1, 0⟩) := rfl
    have e2 : Gs.add g ⟨1, 0⟩ = ⟨g.endC.parts, g.keep + 1, [], []⟩ := by simp [Gs.add]
    rw [e, e2, key]
    congr 1
    omega

/-- One part more behind a normal change, as the model has it. -/
def addP (op : List Pt) (p : Pt) : List Pt :=
  if p.keep = 0 ∧ p.put.data.toList = [] ∧ p.drop.data.toList = [] then op
  else match op.getLast? with
  | none => op ++ [p]
  | some last =>
    if 0 < p.keep ∧ 0 < last.keep then op.dropLast ++ [⟨last.keep + p.keep, last.put, last.drop⟩]
    else if p.drop.data.toList ≠ [] ∧ last.drop.data.toList ≠ [] then op.dropLast ++ [⟨last.keep, last.put, last.drop ++ p.drop⟩]
    else if p.put.data.toList ≠ [] ∧ last.put.data.toList ≠ [] then op.dropLast ++ [⟨last.keep, last.put ++ p.put, last.drop⟩]
    else if p.put.data.toList ≠ [] ∧ last.drop.data.toList ≠ [] then
      match op.dropLast.getLast? with
      | some l2 => if l2.put.data.toList ≠ [] then op.dropLast.dropLast ++ [⟨l2.keep, l2.put ++ p.put, l2.drop⟩, last] else op.dropLast ++ [p, last]
      | none => op.dropLast ++ [p, last]
    else op ++ [p]
theorem ba_cat (a b : List UInt8) : ba a ++ ba b = ba (a ++ b) := ba_eq (by simp [ba])
theorem kp_pos {n : Nat} (h : 0 < n) : 0 < (kp n).keep := by simp [kp]; omega

theorem add_keep {g : Gs} (h : GI g) {n : Nat} (hn : 0 < n) : addP g.out (kp n) = (gath g (List.replicate n ⟨1, 0⟩)).out := by
  rw [gath_keep n hn, out_eq, out_eq]
  have hk : ¬ ((kp n).keep = 0 ∧ (kp n).put.data.toList = [] ∧ (kp n).drop.data.toList = []) := by simp [kp]; omega
  by_cases h0 : 0 < g.keep
  · obtain ⟨hp, hd⟩ := h.a h0
    have : g.endC.parts = g.parts := by simp [Gs.endC, hp, hd]
    rw [this, hp, hd]
    simp only [if_true, List.append_nil, if_pos h0, if_pos (show 0 < g.keep + n by omega)]
    unfold addP
    rw [if_neg hk, List.getLast?_append]
    simp only [List.getLast?_singleton, Option.some_or, List.dropLast_concat]
    rw [if_pos ⟨kp_pos hn, kp_pos h0⟩]
    simp [kp]
  · have h0' : g.keep = 0 := by omega
    have hlast : ∀ x, (g.parts ++ ((if g.put = [] then [] else [pp g.put]) ++ (if g.drop = [] then [] else [dp g.drop]))).getLast? = some x → ¬ 0 < x.keep := by
      intro x hx
      by_cases hd : g.drop = []
      · by_cases hp : g.put = []
        · rw [h.c h0' hp hd, hp, hd] at hx; simp at hx
        · rw [hd] at hx; simp [hp] at hx; subst hx; simp [pp]
      · simp [hd] at hx; subst hx; simp [dp]
    have hnd : (kp n).drop.data.toList = [] := by simp [kp, ba]
    have hnp : (kp n).put.data.toList = [] := by simp [kp, ba]
    have e : g.endC.parts = g.parts ++ ((if g.put = [] then [] else [pp g.put]) ++ (if g.drop = [] then [] else [dp g.drop])) := rfl
    rw [e]
    simp only [if_neg h0, List.nil_append, if_true, List.append_nil, if_pos (show 0 < g.keep + n by omega)]
    rw [show g.keep + n = n by omega]
    unfold addP
    rw [if_neg hk]
    generalize g.parts ++ ((if g.put = [] then [] else [pp g.put]) ++ (if g.drop = [] then [] else [dp g.drop])) = L at hlast
    cases hL : L.getLast? with
    | none => rfl
    | some x =>
      simp only
      rw [if_neg (fun c => hlast x hL c.2), if_neg (fun c => c.1 hnd), if_neg (fun c => c.1 hnp), if_neg (fun c => c.1 hnp)]
theorem pp_no {b : List UInt8} (hb : b ≠ []) : ¬ ((pp b).keep = 0 ∧ (pp b).put.data.toList = [] ∧ (pp b).drop.data.toList = []) := by
  rintro ⟨_, h, _⟩
  rw [pp, ba_list] at h
  exact hb h
theorem dp_no {b : List UInt8} (hb : b ≠ []) : ¬ ((dp b).keep = 0 ∧ (dp b).put.data.toList = [] ∧ (dp b).drop.data.toList = []) := by
  rintro ⟨_, _, h⟩
  rw [dp, ba_list] at h
  exact hb h
theorem ppP (b : List UInt8) : (pp b).put.data.toList = b := by rw [pp, ba_list]
theorem ppD (b : List UInt8) : (pp b).drop.data.toList = [] := by rw [pp, ba_list]
theorem dpP (b : List UInt8) : (dp b).put.data.toList = [] := by rw [dp, ba_list]
theorem dpD (b : List UInt8) : (dp b).drop.data.toList = b := by rw [dp, ba_list]
theorem kpP (n : Nat) : (kp n).put.data.toList = [] := by rw [kp, ba_list]
theorem kpD (n : Nat) : (kp n).drop.data.toList = [] := by rw [kp, ba_list]

theorem add_put {g : Gs} (h : GI g) {b : List UInt8} (hb : b ≠ []) : addP g.out (pp b) = (gath g (b.map (fun c => (⟨2, c⟩ : St)))).out := by
  rw [gath_put b hb, out_eq, out_eq]
  have hnk : ¬ (0 < (pp b).keep) := by simp [pp]
  have hnd : ¬ ((pp b).drop.data.toList ≠ []) := by rw [ppD]; simp
  have hp : (pp b).put.data.toList ≠ [] := by rw [ppP]; exact hb
  by_cases h0 : 0 < g.keep
  · obtain ⟨hpu, hdr⟩ := h.a h0
    have e : g.endK.parts = g.parts ++ [kp g.keep] := by simp [Gs.endK, h0]
    simp only [e, hpu, hdr, if_pos h0, if_true, List.nil_append, List.append_nil, if_neg hb, Nat.lt_irrefl, if_false]
    unfold addP
    rw [if_neg (pp_no hb), List.getLast?_append]
    simp only [List.getLast?_singleton, Option.some_or]
    rw [if_neg (fun c => hnk c.1), if_neg (fun c => hnd c.1), if_neg (fun c => c.2 (kpP _)), if_neg (fun c => c.2 (kpD _))]
  · have h0' : g.keep = 0 := by omega
    have e : g.endK.parts = g.parts := by simp [Gs.endK, h0]
    by_cases hdr : g.drop = []
    · by_cases hpu : g.put = []
      · have hpa := h.c h0' hpu hdr
        simp only [e, hpa, hpu, hdr, h0', Nat.lt_irrefl, if_true, if_false, List.nil_append, List.append_nil, if_neg hb]
        unfold addP
        rw [if_neg (pp_no hb)]; rfl
      · simp only [e, hdr, h0', Nat.lt_irrefl, if_true, if_false, List.nil_append, List.append_nil, if_neg hpu, if_neg (show g.put ++ b ≠ [] from fun c => hb (List.append_eq_nil_iff.1 c).2)]
        unfold addP
        rw [if_neg (pp_no hb), List.getLast?_append]
        simp only [List.getLast?_singleton, Option.some_or, List.dropLast_concat]
        rw [if_neg (fun c => hnk c.1), if_neg (fun c => hnd c.1), if_pos ⟨hp, by rw [ppP]; exact hpu⟩]
        simp [pp, ba_cat]
    · by_cases hpu : g.put = []
      · simp only [e, hpu, h0', Nat.lt_irrefl, if_true, if_false, List.nil_append, if_neg hdr, if_neg hb]
        unfold addP
        rw [if_neg (pp_no hb), List.getLast?_append]
        simp only [List.getLast?_singleton, Option.some_or, List.dropLast_concat]
        rw [if_neg (fun c => hnk c.1), if_neg (fun c => hnd c.1), if_neg (fun c => c.2 (dpP _)), if_pos ⟨hp, by rw [dpD]; exact hdr⟩]
        rcases h.b h0' with hpa | ⟨r, n, hpa, hn⟩
        · rw [hpa]; rfl
        · rw [hpa, List.getLast?_append]
          simp only [List.getLast?_singleton, Option.some_or]
          rw [if_neg (fun c => c (kpP _))]
          simp
      · simp only [e, h0', Nat.lt_irrefl, if_false, List.nil_append, if_neg hdr, if_neg hpu, if_neg (show g.put ++ b ≠ [] from fun c => hb (List.append_eq_nil_iff.1 c).2)]
        have e1 : g.parts ++ ([pp g.put] ++ [dp g.drop]) = (g.parts ++ [pp g.put]) ++ [dp g.drop] := by simp
        unfold addP
        rw [if_neg (pp_no hb), e1, List.getLast?_append]
        simp only [List.getLast?_singleton, Option.some_or, List.dropLast_concat]
        rw [if_neg (fun c => hnk c.1), if_neg (fun c => hnd c.1), if_neg (fun c => c.2 (dpP _)), if_pos ⟨hp, by rw [dpD]; exact hdr⟩, List.getLast?_append]
        simp only [List.getLast?_singleton, Option.some_or]
        rw [if_pos (by rw [ppP]; exact hpu)]
        simp [pp, ba_cat]

theorem add_drop {g : Gs} (h : GI g) {b : List UInt8} (hb : b ≠ []) : addP g.out (dp b) = (gath g (b.map (fun c => (⟨3, c⟩ : St)))).out := by
  rw [gath_drop b hb, out_eq, out_eq]
  have hnk : ¬ (0 < (dp b).keep) := by simp [dp]
  have hnp : ¬ ((dp b).put.data.toList ≠ []) := by rw [dpP]; simp
  have hd : (dp b).drop.data.toList ≠ [] := by rw [dpD]; exact hb
  by_cases h0 : 0 < g.keep
  · obtain ⟨hpu, hdr⟩ := h.a h0
    have e : g.endK.parts = g.parts ++ [kp g.keep] := by simp [Gs.endK, h0]
    simp only [e, hpu, hdr, if_pos h0, if_true, List.nil_append, List.append_nil, if_neg hb, Nat.lt_irrefl, if_false]
    unfold addP
    rw [if_neg (dp_no hb), List.getLast?_append]
    simp only [List.getLast?_singleton, Option.some_or]
    rw [if_neg (fun c => hnk c.1), if_neg (fun c => c.2 (kpD _)), if_neg (fun c => hnp c.1), if_neg (fun c => hnp c.1)]
  · have h0' : g.keep = 0 := by omega
    have e : g.endK.parts = g.parts := by simp [Gs.endK, h0]
    by_cases hdr : g.drop = []
    · by_cases hpu : g.put = []
      · have hpa := h.c h0' hpu hdr
        simp only [e, hpa, hpu, hdr, h0', Nat.lt_irrefl, if_true, if_false, List.nil_append, if_neg hb]
        unfold addP
        rw [if_neg (dp_no hb)]; rfl
      · simp only [e, hdr, h0', Nat.lt_irrefl, if_true, if_false, List.nil_append, List.append_nil, if_neg hpu, if_neg hb]
        unfold addP
        rw [if_neg (dp_no hb), List.getLast?_append]
        simp only [List.getLast?_singleton, Option.some_or]
        rw [if_neg (fun c => hnk c.1), if_neg (fun c => c.2 (ppD _)), if_neg (fun c => hnp c.1), if_neg (fun c => hnp c.1)]
        simp
    · have e1 : g.parts ++ ((if g.put = [] then [] else [pp g.put]) ++ [dp g.drop]) = (g.parts ++ (if g.put = [] then [] else [pp g.put])) ++ [dp g.drop] := by simp
      simp only [e, h0', Nat.lt_irrefl, if_false, List.nil_append, if_neg hdr, if_neg (show g.drop ++ b ≠ [] from fun c => hb (List.append_eq_nil_iff.1 c).2)]
      rw [e1]
      unfold addP
      rw [if_neg (dp_no hb), List.getLast?_append]
      simp only [List.getLast?_singleton, Option.some_or, List.dropLast_concat]
      rw [if_neg (fun c => hnk c.1), if_pos ⟨hd, by rw [dpD]; exact hdr⟩]
      simp [dp, ba_cat]

/-- The gathering goes on standing so. -/
theorem gi_add {g : Gs} (h : GI g) (x : St) : GI (g.add x) := by
  unfold Gs.add
  split
  · exact ⟨fun _ => ⟨rfl, rfl⟩, fun h0 => by simp at h0, fun h0 => by simp at h0⟩
  · have hb : g.endK.parts = [] ∨ ∃ r n, g.endK.parts = r ++ [kp n] ∧ 0 < n := by
      unfold Gs.endK
      by_cases h0 : 0 < g.keep
      · exact Or.inr ⟨g.parts, g.keep, by simp [h0], h0⟩
      · simp only [if_neg h0, List.append_nil]
        exact h.b (by omega)
    split
    · exact ⟨fun h0 => by simp at h0, fun _ => hb, fun _ h1 _ => by simp at h1⟩
    · split
      · exact ⟨fun h0 => by simp at h0, fun _ => hb, fun _ _ h1 => by simp at h1⟩
      · exact h
theorem gi_gath : ∀ (l : List St) (g : Gs), GI g → GI (gath g l)
  | [], _, h => h
  | x :: l, g, h => gi_gath l (g.add x) (gi_add h x)
/-- A good part is put behind a normal change just as its steps are gathered. -/
theorem add_part {g : Gs} (h : GI g) {p : Pt} (hp : pk p ≠ 0) : addP g.out p = (gath g (stp p)).out := by
  unfold pk at hp
  split at hp
  · rename_i hh
    obtain ⟨n, hn⟩ : ∃ n : Nat, p.keep = n := ⟨p.keep.toNat, by omega⟩
    have e : p = kp n := by
      have h1 : p.put = ba [] := ba_eq (by rw [hh.1, ba_list])
      have h2 : p.drop = ba [] := ba_eq (by rw [hh.2.1, ba_list])
      cases p; simp only at hn h1 h2; subst hn h1 h2; rfl
    rw [e, add_keep h (by omega)]
    congr 2
    simp [stp, kp, ba]
  · split at hp
    · rename_i hh
      have e : p = pp p.put.data.toList := by
        have h2 : p.drop = ba [] := ba_eq (by rw [hh.2.1, ba_list])
        have h1 := hh.1
        cases p; simp only at h1 h2; subst h1 h2; rw [pp, ba_of]
      obtain ⟨b, he, hb⟩ : ∃ b, p = pp b ∧ b ≠ [] := ⟨_, e, hh.2.2.1⟩
      rw [he, add_put h hb]
      congr 2
      simp [stp, pp, ba]
    · split at hp
      · rename_i hh
        have e : p = dp p.drop.data.toList := by
          have h2 : p.put = ba [] := ba_eq (by rw [hh.2.1, ba_list])
          have h1 := hh.1
          cases p; simp only at h1 h2; subst h1 h2; rw [dp, ba_of]
        obtain ⟨b, he, hb⟩ : ∃ b, p = dp b ∧ b ≠ [] := ⟨_, e, hh.2.2.1⟩
        rw [he, add_drop h hb]
        congr 2
      · exact absurd rfl hp
/-- The normal change, as the model has it, and as it is gathered. -/
def normL (l : List Pt) : List Pt := l.foldl addP []
theorem norm_gath (l : List Pt) (h : ∀ p ∈ l, pk p ≠ 0) : normL l = (gath g0 (stL l)).out := by
  have key : ∀ (l : List Pt) (g : Gs), GI g → (∀ p ∈ l, pk p ≠ 0) → l.foldl addP g.out = (gath g (stL l)).out := by
    intro l
    induction l with
    | nil => intro g _ _; rfl
    | cons p l ih =>
      intro g hg hp
      have e : stL (p :: l) = stp p ++ stL l := by simp [stL]
      rw [List.foldl_cons, add_part hg (hp p (by simp)), ih _ (gi_gath _ _ hg) (fun q hq => hp q (by simp [hq])), e, gath_app]
  exact key l g0 gi0 h
end Go.Proofs.YtmjehpigfkobeabDoor.Doc1

namespace Go.Proofs.YtmjehpigfkobeabDoor.Doc1

def tkG (G : Gs) : Int := tkL G.parts + (G.keep : Int) + (G.drop.length : Int)
def mkG (G : Gs) : Int := mkL G.parts + (G.keep : Int) + (G.put.length : Int)
theorem tkL_app (a b : List Pt) : tkL (a ++ b) = tkL a + tkL b := by simp [tkL]
theorem mkL_app (a b : List Pt) : mkL (a ++ b) = mkL a + mkL b := by simp [mkL]
theorem ba_sz (b : List UInt8) : (ba b).size = b.length := by rw [sz_list, ba_list]
theorem tkmk_kp (n : Nat) : tkL [kp n] = n ∧ mkL [kp n] = n := by simp [tkL, mkL, tk1, mk1, kp, ba_sz]
theorem tkmk_pp (b : List UInt8) : tkL [pp b] = 0 ∧ mkL [pp b] = b.length := by simp [tkL, mkL, tk1, mk1, pp, ba_sz]
theorem tkmk_dp (b : List UInt8) : tkL [dp b] = b.length ∧ mkL [dp b] = 0 := by simp [tkL, mkL, tk1, mk1, dp, ba_sz]
theorem endK_sums (G : Gs) : tkL G.endK.parts = tkL G.parts + G.keep ∧ mkL G.endK.parts = mkL G.parts + G.keep := by
  unfold Gs.endK
  rw [tkL_app, mkL_app]
  by_cases h : 0 < G.keep
  · rw [if_pos h, (tkmk_kp _).1, (tkmk_kp _).2]; simp
  · rw [if_neg h]; simp [tkL, mkL]; omega
theorem endC_sums (G : Gs) : tkL G.endC.parts = tkL G.parts + G.drop.length ∧ mkL G.endC.parts = mkL G.parts + G.put.length := by
  unfold Gs.endC
  rw [tkL_app, mkL_app, tkL_app, mkL_app]
  by_cases hp : G.put = []
  · by_cases hd : G.drop = []
    · simp [hp, hd, tkL, mkL]
    · rw [if_pos hp, if_neg hd, (tkmk_dp _).1, (tkmk_dp _).2, hp]; simp [tkL, mkL]
  · by_cases hd : G.drop = []
    · rw [if_neg hp, if_pos hd, (tkmk_pp _).1, (tkmk_pp _).2, hd]; simp [tkL, mkL]
    · rw [if_neg hp, if_neg hd, (tkmk_dp _).1, (tkmk_dp _).2, (tkmk_pp _).1, (tkmk_pp _).2]; simp
/-- A step of one of the three kinds. -/
def sk (x : St) : Prop := x.k = 1 ∨ x.k = 2 ∨ x.k = 3
theorem add_sums (G : Gs) (x : St) (hx : sk x) : tkG (G.add x) = tkG G + (if x.k = 2 then 0 else 1) ∧ mkG (G.add x) = mkG G + (if x.k = 3 then 0 else 1) := by
  have hk := endK_sums G
  have hc := endC_sums G
  unfold tkG mkG Gs.add
  rcases hx with h | h | h
  · simp [h]; omega
  · simp [h]; omega
  · simp [h]; omega
def ctk (l : List St) : Nat := (l.filter (fun x => decide (x.k ≠ 2))).length
def cmk (l : List St) : Nat := (l.filter (fun x => decide (x.k ≠ 3))).length
theorem gath_sums : ∀ (l : List St) (G : Gs), (∀ x ∈ l, sk x) → tkG (gath G l) = tkG G + ctk l ∧ mkG (gath G l) = mkG G + cmk l
  | [], G, _ => by simp [gath, ctk, cmk]
  | x :: l, G, h => by
    have ih := gath_sums l (G.add x) (fun y hy => h y (List.mem_cons_of_mem _ hy))
    have ha := add_sums G x (h x (List.mem_cons_self))
    have e : gath G (x :: l) = gath (G.add x) l := rfl
    rw [e, ih.1, ih.2, ha.1, ha.2]
    unfold ctk cmk
    by_cases h2 : x.k = 2
    · have h3 : x.k ≠ 3 := by omega
      simp [h2]; omega
    · by_cases h3 : x.k = 3
      · simp [h3]; omega
      · simp [h2, h3]; omega
theorem out_sums (G : Gs) : tkL G.out = tkG G ∧ mkL G.out = mkG G := by
  unfold Gs.out tkG mkG
  have h1 := endC_sums G.endK
  have h2 := endK_sums G
  rw [h1.1, h1.2, h2.1, h2.2]
  exact ⟨rfl, rfl⟩

/-- A part that a gathering may make. -/
def gq (p : Pt) : Prop := (∃ n, 0 < n ∧ p = kp n) ∨ (∃ b, b ≠ [] ∧ allOk b = true ∧ p = pp b) ∨ (∃ b, b ≠ [] ∧ allOk b = true ∧ p = dp b)
theorem gq_pos {p : Pt} (h : gq p) : 0 ≤ tk1 p ∧ 0 ≤ mk1 p := by
  rcases h with ⟨n, _, rfl⟩ | ⟨b, _, _, rfl⟩ | ⟨b, _, _, rfl⟩ <;> simp [tk1, mk1, kp, pp, dp] <;> omega
theorem gq_gp {p : Pt} (h : gq p) (h1 : tk1 p ≤ 300) (h2 : mk1 p ≤ 300) : gp p = true := by
  rcases h with ⟨n, hn, rfl⟩ | ⟨b, hb, ho, rfl⟩ | ⟨b, hb, ho, rfl⟩
  · have : (n : Int) ≤ 300 := by simp [tk1, kp, ba_sz] at h1; omega
    have hk : (kp n).keep = (n : Int) := rfl
    unfold gp
    rw [if_pos (by rw [hk]; omega), kpP, kpD, hk]
    simp
    omega
  · have : b.length ≤ 300 := by simp [mk1, pp, ba_sz] at h2; omega
    unfold gp
    rw [ppP, ppD]
    simp [pp, hb, good, ho, this]
  · have : b.length ≤ 300 := by simp [tk1, dp, ba_sz] at h1; omega
    unfold gp
    rw [dpP, dpD]
    simp [dp, hb, good, ho, this]
structure GQ (G : Gs) : Prop where
  p : ∀ q ∈ G.parts, gq q
  a : allOk G.put = true
  d : allOk G.drop = true
theorem gq0 : GQ g0 := ⟨by simp [g0], rfl, rfl⟩
theorem gq_endK {G : Gs} (h : GQ G) : ∀ q ∈ G.endK.parts, gq q := by
  intro q hq
  unfold Gs.endK at hq
  rcases List.mem_append.1 hq with c | c
  · exact h.p q c
  · split at c
    · rename_i h0; simp at c; exact .inl ⟨_, h0, c⟩
    · cases c
theorem gq_endC {G : Gs} (h : GQ G) : ∀ q ∈ G.endC.parts, gq q := by
  intro q hq
  unfold Gs.endC at hq
  rcases List.mem_append.1 hq with c | c
  · exact h.p q c
  · rcases List.mem_append.1 c with c | c
    · split at c
      · cases c
      · rename_i h0; simp at c; exact .inr (.inl ⟨_, h0, h.a, c⟩)
    · split at c
      · cases c
      · rename_i h0; simp at c; exact .inr (.inr ⟨_, h0, h.d, c⟩)
/-- A step of one of the three kinds, whose byte may stand in a text. -/
def so (x : St) : Prop := sk x ∧ (x.k ≠ 1 → okC x.c = true)
theorem gq_add {G : Gs} (h : GQ G) {x : St} (hx : so x) : GQ (G.add x) := by
  obtain ⟨hk, hc⟩ := hx
  unfold Gs.add
  rcases hk with e | e | e
  · rw [if_pos e]; exact ⟨gq_endC h, rfl, rfl⟩
  · rw [if_neg (by omega), if_pos e]
    have := hc (by omega)
    exact ⟨gq_endK h, by have := h.a; simp [allOk] at *; exact ⟨this, by assumption⟩, h.d⟩
  · rw [if_neg (by omega), if_neg (by omega), if_pos e]
    have := hc (by omega)
    exact ⟨gq_endK h, h.a, by have := h.d; simp [allOk] at *; exact ⟨this, by assumption⟩⟩
theorem gq_gath : ∀ (l : List St) (G : Gs), GQ G → (∀ x ∈ l, so x) → GQ (gath G l)
  | [], _, h, _ => h
  | x :: l, G, h, hl => gq_gath l (G.add x) (gq_add h (hl x (List.mem_cons_self))) (fun y hy => hl y (List.mem_cons_of_mem _ hy))
theorem gq_out {G : Gs} (h : GQ G) : ∀ q ∈ G.out, gq q := gq_endC (G := G.endK) ⟨gq_endK h, h.a, h.d⟩
theorem sums_mem : ∀ (l : List Pt), (∀ q ∈ l, gq q) → (0 ≤ tkL l ∧ 0 ≤ mkL l) ∧ ∀ p ∈ l, tk1 p ≤ tkL l ∧ mk1 p ≤ mkL l
  | [], _ => ⟨by simp [tkL, mkL], fun p hp => by cases hp⟩
  | q :: l, h => by
    obtain ⟨⟨a, b⟩, c⟩ := sums_mem l (fun x hx => h x (List.mem_cons_of_mem _ hx))
    have hq := gq_pos (h q (List.mem_cons_self))
    have e1 : tkL (q :: l) = tk1 q + tkL l := by simp [tkL]
    have e2 : mkL (q :: l) = mk1 q + mkL l := by simp [mkL]
    rw [e1, e2]
    refine ⟨⟨by omega, by omega⟩, fun p hp => ?_⟩
    rcases List.mem_cons.1 hp with rfl | hp
    · omega
    · have := c p hp; omega
/-- When what was gathered is a good change. -/
theorem goodO_gath (l : List St) (h : ∀ x ∈ l, so x) : goodO (gath g0 l).out = decide ((gath g0 l).out.length ≤ 60 ∧ ctk l ≤ 300 ∧ cmk l ≤ 300) := by
  have hs := gath_sums l g0 (fun x hx => (h x hx).1)
  have ho := out_sums (gath g0 l)
  have e0 : tkG g0 = 0 ∧ mkG g0 = 0 := by simp [tkG, mkG, g0, tkL, mkL]
  rw [e0.1, e0.2] at hs
  have e1 : tkL (gath g0 l).out = ctk l := by rw [ho.1, hs.1]; simp
  have e2 : mkL (gath g0 l).out = cmk l := by rw [ho.2, hs.2]; simp
  have hq := gq_out (gq_gath l g0 gq0 h)
  by_cases hl : (gath g0 l).out.length ≤ 60
  · by_cases h3 : ctk l ≤ 300 ∧ cmk l ≤ 300
    · have hall : (gath g0 l).out.all gp = true := List.all_eq_true.2 (fun p hp => by
        have := (sums_mem _ hq).2 p hp
        exact gq_gp (hq p hp) (by rw [e1] at this; omega) (by rw [e2] at this; omega))
      rw [goodO_sums hl hall, e1, e2]
      congr 1
      simp [hl]; omega
    · rw [decide_eq_false (fun c => h3 c.2)]
      unfold goodO
      rw [e1, e2]
      simp only [Bool.and_eq_false_iff, decide_eq_false_iff_not]
      rcases Classical.not_and_iff_not_or_not.1 h3 with c | c
      · exact .inr (.inr (.inl (by omega)))
      · exact .inr (.inr (.inr (by omega)))
  · rw [decide_eq_false (fun c => hl c.1), goodO_no_len hl]

/-- The steps of good parts. -/
theorem stp_so {p : Pt} (h : pk p ≠ 0) : ∀ x ∈ stp p, so x := by
  have hg : (p.put.data.toList ≠ [] → allOk p.put.data.toList = true) ∧ (p.drop.data.toList ≠ [] → allOk p.drop.data.toList = true) := by
    unfold pk at h
    split at h
    · rename_i hh; exact ⟨fun c => absurd hh.1 c, fun c => absurd hh.2.1 c⟩
    · split at h
      · rename_i hh
        have := hh.2.2.2
        unfold good at this
        simp only [Bool.and_eq_true] at this
        exact ⟨fun _ => this.1, fun c => absurd hh.2.1 c⟩
      · split at h
        · rename_i hh
          have := hh.2.2.2
          unfold good at this
          simp only [Bool.and_eq_true] at this
          exact ⟨fun c => absurd hh.2.1 c, fun _ => this.1⟩
        · exact absurd rfl h
  intro x hx
  unfold stp at hx
  rcases List.mem_append.1 hx with c | c
  · have := List.eq_of_mem_replicate c
    rw [this]
    exact ⟨.inl rfl, fun c => absurd rfl c⟩
  · rcases List.mem_append.1 c with c | c
    · obtain ⟨b, hb, rfl⟩ := List.mem_map.1 c
      have := hg.1 (fun e => by rw [e] at hb; cases hb)
      exact ⟨.inr (.inl rfl), fun _ => List.all_eq_true.1 this b hb⟩
    · obtain ⟨b, hb, rfl⟩ := List.mem_map.1 c
      have := hg.2 (fun e => by rw [e] at hb; cases hb)
      exact ⟨.inr (.inr rfl), fun _ => List.all_eq_true.1 this b hb⟩
theorem stL_so {l : List Pt} (h : ∀ p ∈ l, pk p ≠ 0) : ∀ x ∈ stL l, so x := by
  intro x hx
  obtain ⟨p, hp, hx⟩ := List.mem_flatMap.1 hx
  exact stp_so (h p hp) x hx
theorem keep_nn {p : Pt} (h : pk p ≠ 0) : 0 ≤ p.keep := by
  unfold pk at h
  split at h
  · rename_i hh; omega
  · split at h
    · rename_i hh; omega
    · split at h
      · rename_i hh; omega
      · exact absurd rfl h
theorem filter_map_all {f : UInt8 → St} {q : St → Bool} (b : List UInt8) (h : ∀ c, q (f c) = true) : ((b.map f).filter q).length = b.length := by
  rw [List.filter_eq_self.2 (fun x hx => by obtain ⟨c, _, rfl⟩ := List.mem_map.1 hx; exact h c), List.length_map]
theorem filter_map_none {f : UInt8 → St} {q : St → Bool} (b : List UInt8) (h : ∀ c, q (f c) = false) : ((b.map f).filter q).length = 0 := by
  rw [List.filter_eq_nil_iff.2 (fun x hx => by obtain ⟨c, _, rfl⟩ := List.mem_map.1 hx; rw [h c]; simp)]; rfl
theorem stp_sums {p : Pt} (h : pk p ≠ 0) : (ctk (stp p) : Int) = tk1 p ∧ (cmk (stp p) : Int) = mk1 p := by
  have hk := keep_nn h
  have e : ((p.keep.toNat : Nat) : Int) = p.keep := by omega
  unfold ctk cmk stp tk1 mk1
  simp only [List.filter_append, List.length_append, List.filter_replicate]
  rw [filter_map_none (f := fun c => (⟨2, c⟩ : St)) (q := fun x => decide (x.k ≠ 2)) _ (fun c => by simp), filter_map_all (f := fun c => (⟨3, c⟩ : St)) (q := fun x => decide (x.k ≠ 2)) _ (fun c => by simp),
    filter_map_all (f := fun c => (⟨2, c⟩ : St)) (q := fun x => decide (x.k ≠ 3)) _ (fun c => by simp), filter_map_none (f := fun c => (⟨3, c⟩ : St)) (q := fun x => decide (x.k ≠ 3)) _ (fun c => by simp)]
  rw [sz_list, sz_list]
  simp
  omega
theorem stL_sums : ∀ (l : List Pt), (∀ p ∈ l, pk p ≠ 0) → (ctk (stL l) : Int) = tkL l ∧ (cmk (stL l) : Int) = mkL l
  | [], _ => by simp [stL, ctk, cmk, tkL, mkL]
  | p :: l, h => by
    have ih := stL_sums l (fun x hx => h x (List.mem_cons_of_mem _ hx))
    have hp := stp_sums (h p (List.mem_cons_self))
    have e : stL (p :: l) = stp p ++ stL l := by simp [stL]
    have e1 : tkL (p :: l) = tk1 p + tkL l := by simp [tkL]
    have e2 : mkL (p :: l) = mk1 p + mkL l := by simp [mkL]
    rw [e, e1, e2]
    unfold ctk cmk at *
    simp only [List.filter_append, List.length_append]
    omega
theorem goodO_pk {l : List Pt} (h : goodO l = true) : ∀ p ∈ l, pk p ≠ 0 := by
  unfold goodO at h
  simp only [Bool.and_eq_true] at h
  intro p hp
  have := List.all_eq_true.1 h.2.1 p hp
  rw [gp_pk] at this
  exact of_decide_eq_true this
theorem goodO_le {l : List Pt} (h : goodO l = true) : l.length ≤ 60 ∧ tkL l ≤ 300 ∧ mkL l ≤ 300 := by
  unfold goodO at h
  simp only [Bool.and_eq_true, decide_eq_true_eq] at h
  exact ⟨h.1, h.2.2.1, h.2.2.2⟩
/-- How great a gathering grows. -/
theorem st_len {l : List Pt} (h : goodO l = true) : (stL l).length ≤ 600 := by
  have hs := stL_sums l (goodO_pk h)
  have hl := goodO_le h
  have key : ∀ a : List St, a.length ≤ ctk a + cmk a := by
    intro a
    induction a with
    | nil => simp
    | cons x a ih =>
      unfold ctk cmk at *
      simp only [ne_eq, decide_not] at ih ⊢
      by_cases h2 : x.k = 2
      · simp [h2]; omega
      · by_cases h3 : x.k = 3
        · simp [h3]; omega
        · simp [h2, h3]; omega
  have := key (stL l)
  omega
end Go.Proofs.YtmjehpigfkobeabDoor.Doc1

namespace Go.Proofs.YtmjehpigfkobeabDoor.Doc1

/-- One step: what is left of the text, and what is made. -/
def apT (so : List UInt8 × List UInt8) (x : St) : Option (List UInt8 × List UInt8) :=
  if x.k = 2 then some (so.1, so.2 ++ [x.c])
  else match so.1 with
  | [] => none
  | c :: r => if x.k = 1 then some (r, so.2 ++ [c]) else if c = x.c then some (r, so.2) else none
def apTL (l : List St) (so : List UInt8 × List UInt8) : Option (List UInt8 × List UInt8) := l.foldlM apT so
theorem apTL_app (a b : List St) (so : List UInt8 × List UInt8) : apTL (a ++ b) so = (apTL a so).bind (apTL b) := by
  unfold apTL; rw [List.foldlM_append]; rfl
theorem apTL_cons (x : St) (b : List St) (so : List UInt8 × List UInt8) : apTL (x :: b) so = (apT so x).bind (apTL b) := by
  unfold apTL; rw [List.foldlM_cons]; rfl
theorem apTL_keep : ∀ (n : Nat) (r o : List UInt8), apTL (List.replicate n ⟨1, 0⟩) (r, o) = if r.length < n then none else some (r.drop n, o ++ r.take n)
  | 0, r, o => by simp [apTL]
  | n + 1, [], o => by rw [List.replicate_succ, apTL_cons]; simp [apT]
  | n + 1, c :: r, o => by
    rw [List.replicate_succ, apTL_cons]
    have : apT (c :: r, o) ⟨1, 0⟩ = some (r, o ++ [c]) := by simp [apT]
    rw [this, Option.bind_some, apTL_keep n r (o ++ [c])]
    simp
theorem apTL_put : ∀ (b : List UInt8) (r o : List UInt8), apTL (b.map (fun c => (⟨2, c⟩ : St))) (r, o) = some (r, o ++ b)
  | [], r, o => by simp [apTL]
  | c :: b, r, o => by
    rw [List.map_cons, apTL_cons]
    have : apT (r, o) ⟨2, c⟩ = some (r, o ++ [c]) := by simp [apT]
    rw [this, Option.bind_some, apTL_put b r (o ++ [c])]
    simp
theorem apTL_drop : ∀ (b : List UInt8) (r o : List UInt8), apTL (b.map (fun c => (⟨3, c⟩ : St))) (r, o) = if r.take b.length = b then some (r.drop b.length, o) else none
  | [], r, o => by simp [apTL]
  | c :: b, [], o => by rw [List.map_cons, apTL_cons]; simp [apT]
  | c :: b, d :: r, o => by
    rw [List.map_cons, apTL_cons]
    by_cases h : d = c
    · subst h
      have : apT (d :: r, o) ⟨3, d⟩ = some (r, o) := by simp [apT]
      rw [this, Option.bind_some, apTL_drop b r o]
      simp
    · have : apT (d :: r, o) ⟨3, c⟩ = none := by simp [apT, h]
      rw [this]
      simp [h]
/-- How far one is: what is left is the text but for what was taken. -/
theorem apTL_left : ∀ (l : List St) (r o : List UInt8) (y : List UInt8 × List UInt8), (∀ x ∈ l, sk x) → apTL l (r, o) = some y → y.1 = r.drop (ctk l) ∧ ctk l ≤ r.length ∧ y.2.length ≤ o.length + l.length
  | [], r, o, y, _, h => by
    simp [apTL] at h
    subst h
    simp [ctk]
  | x :: l, r, o, y, hs, h => by
    rw [apTL_cons] at h
    have hx := hs x (List.mem_cons_self)
    cases e : apT (r, o) x with
    | none => rw [e] at h; cases h
    | some z =>
      rw [e, Option.bind_some] at h
      obtain ⟨r1, o1⟩ := z
      have ih := apTL_left l r1 o1 y (fun q hq => hs q (List.mem_cons_of_mem _ hq)) h
      unfold apT at e
      rcases hx with k | k | k
      · cases r with
        | nil => simp [k] at e
        | cons c r =>
          simp [k] at e
          obtain ⟨rfl, rfl⟩ := e
          have hc : ctk (x :: l) = ctk l + 1 := by unfold ctk; simp [k]
          obtain ⟨i1, i2, i3⟩ := ih
          rw [hc]
          refine ⟨by rw [i1, List.drop_succ_cons], by simp; omega, ?_⟩
          simp only [List.length_append, List.length_cons, List.length_nil] at i3 ⊢
          omega
      · simp [k] at e
        obtain ⟨rfl, rfl⟩ := e
        have hc : ctk (x :: l) = ctk l := by unfold ctk; simp [k]
        obtain ⟨i1, i2, i3⟩ := ih
        rw [hc]
        refine ⟨i1, i2, ?_⟩
        simp only [List.length_append, List.length_cons, List.length_nil] at i3 ⊢
        omega
      · cases r with
        | nil => simp [k] at e
        | cons c r =>
          simp [k] at e
          obtain ⟨_, rfl, rfl⟩ := e
          have hc : ctk (x :: l) = ctk l + 1 := by unfold ctk; simp [k]
          obtain ⟨i1, i2, i3⟩ := ih
          rw [hc]
          refine ⟨by rw [i1, List.drop_succ_cons], by simp; omega, ?_⟩
          simp only [List.length_cons]
          omega
theorem ctk_snoc (l : List St) (x : St) : ctk (l ++ [x]) = ctk l + (if x.k = 2 then 0 else 1) := by
  unfold ctk
  rw [List.filter_append, List.length_append]
  by_cases h : x.k = 2 <;> simp [h]
theorem ctk_pre {a b : List St} (h : a <+: b) : ctk a ≤ ctk b := by
  obtain ⟨c, rfl⟩ := h
  unfold ctk
  rw [List.filter_append, List.length_append]; omega
/-- A step more. -/
theorem apTL_snoc (l : List St) (x : St) (so : List UInt8 × List UInt8) : apTL (l ++ [x]) so = (apTL l so).bind (fun y => apT y x) := by
  rw [apTL_app]
  congr 1
  funext y
  rw [apTL_cons]
  cases apT y x <;> simp [apTL]
theorem apTL_none {a b : List St} (h : a <+: b) {so : List UInt8 × List UInt8} (hn : apTL a so = none) : apTL b so = none := by
  obtain ⟨c, rfl⟩ := h
  rw [apTL_app, hn]; rfl
end Go.Proofs.YtmjehpigfkobeabDoor.Doc1
