/- The plain mathematics of chapter 3, on: a change byte by byte, and how its steps are gathered into a normal change. -/
import Derived.Test.YtbmnciejaknonauDoorOps2
namespace Go.Proofs.YtbmnciejaknonauDoor.Doc1

/-- What a change does to one byte: its kind, and the byte (of one that is kept none is known). -/
structure St where
  k : Nat
  c : UInt8
  deriving DecidableEq

def kp (n : Nat) : Pt := ⟨(n : Int), ba [], ba []⟩
def pp (b : List UInt8) : Pt := ⟨0, ba b, ba []⟩
def dp (b : List UInt8) : Pt := ⟨0, ba [], ba b⟩
/-- A part's steps, of a good part. -/
def stp (p : Pt) : List St := List.replicate p.keep.toNat ⟨1, 0⟩ ++ (p.put.data.toList.map (fun c => ⟨2, c⟩) ++ p.drop.data.toList.map (fun c => ⟨3, c⟩))
def stL (l : List Pt) : List St := l.flatMap stp

/-- What is gathered so far. -/
structure Gs where
  parts : List Pt
  keep : Nat
  put : List UInt8
  drop : List UInt8

def Gs.endK (g : Gs) : Gs := ⟨g.parts ++ (if 0 < g.keep then [kp g.keep] else []), 0, g.put, g.drop⟩
def Gs.endC (g : Gs) : Gs := ⟨g.parts ++ ((if g.put = [] then [] else [pp g.put]) ++ (if g.drop = [] then [] else [dp g.drop])), g.keep, [], []⟩
def Gs.add (g : Gs) (x : St) : Gs :=
  if x.k = 1 then ⟨g.endC.parts, g.keep + 1, [], []⟩
  else if x.k = 2 then ⟨g.endK.parts, 0, g.put ++ [x.c], g.drop⟩
  else if x.k = 3 then ⟨g.endK.parts, 0, g.put, g.drop ++ [x.c]⟩
  else g
def Gs.out (g : Gs) : List Pt := g.endK.endC.parts
def gath (g : Gs) (l : List St) : Gs := l.foldl Gs.add g
def g0 : Gs := ⟨[], 0, [], []⟩
theorem gath_app (g : Gs) (a b : List St) : gath g (a ++ b) = gath (gath g a) b := List.foldl_append
theorem out_eq (g : Gs) : g.out = g.parts ++ ((if 0 < g.keep then [kp g.keep] else []) ++ ((if g.put = [] then [] else [pp g.put]) ++ (if g.drop = [] then [] else [dp g.drop]))) := by
  unfold Gs.out Gs.endK Gs.endC
  simp only [List.append_assoc]

/-- How the gathering stands between two steps. -/
structure GI (g : Gs) : Prop where
  a : 0 < g.keep → g.put = [] ∧ g.drop = []
  b : g.keep = 0 → g.parts = [] ∨ ∃ r n, g.parts = r ++ [kp n] ∧ 0 < n
  c : g.keep = 0 → g.put = [] → g.drop = [] → g.parts = []
theorem gi0 : GI g0 := ⟨fun h => by simp [g0] at h, fun _ => Or.inl rfl, fun _ _ _ => rfl⟩

theorem gath_put {g : Gs} : ∀ b : List UInt8, b ≠ [] → gath g (b.map (fun c => (⟨2, c⟩ : St))) = ⟨g.endK.parts, 0, g.put ++ b, g.drop⟩ := by
  have key : ∀ (b : List UInt8) (P : List Pt) (x y : List UInt8), gath ⟨P, 0, x, y⟩ (b.map (fun c => (⟨2, c⟩ : St))) = ⟨P, 0, x ++ b, y⟩ := by
    intro b
    induction b with
    | nil => intro P x y; simp [gath]
    | cons c b ih =>
      intro P x y
      have e : gath ⟨P, 0, x, y⟩ ((c :: b).map (fun c => (⟨2, c⟩ : St))) = gath (Gs.add ⟨P, 0, x, y⟩ ⟨2, c⟩) (b.map (fun c => (⟨2, c⟩ : St))) := rfl
      have e2 : Gs.add ⟨P, 0, x, y⟩ ⟨2, c⟩ = ⟨P, 0, x ++ [c], y⟩ := by simp [Gs.add, Gs.endK]
      rw [e, e2, ih]; simp
  intro b hb
  cases b with
  | nil => exact absurd rfl hb
  | cons c b =>
    have e : gath g ((c :: b).map (fun c => (⟨2, c⟩ : St))) = gath (Gs.add g ⟨2, c⟩) (b.map (fun c => (⟨2, c⟩ : St))) := rfl
    have e2 : Gs.add g ⟨2, c⟩ = ⟨g.endK.parts, 0, g.put ++ [c], g.drop⟩ := by simp [Gs.add]
    rw [e, e2, key]; simp
theorem gath_drop {g : Gs} : ∀ b : List UInt8, b ≠ [] → gath g (b.map (fun c => (⟨3, c⟩ : St))) = ⟨g.endK.parts, 0, g.put, g.drop ++ b⟩ := by
  have key : ∀ (b : List UInt8) (P : List Pt) (x y : List UInt8), gath ⟨P, 0, x, y⟩ (b.map (fun c => (⟨3, c⟩ : St))) = ⟨P, 0, x, y ++ b⟩ := by
    intro b
    induction b with
    | nil => intro P x y; simp [gath]
    | cons c b ih =>
      intro P x y
      have e : gath ⟨P, 0, x, y⟩ ((c :: b).map (fun c => (⟨3, c⟩ : St))) = gath (Gs.add ⟨P, 0, x, y⟩ ⟨3, c⟩) (b.map (fun c => (⟨3, c⟩ : St))) := rfl
      have e2 : Gs.add ⟨P, 0, x, y⟩ ⟨3, c⟩ = ⟨P, 0, x, y ++ [c]⟩ := by simp [Gs.add, Gs.endK]
      rw [e, e2, ih]; simp
  intro b hb
  cases b with
  | nil => exact absurd rfl hb
  | cons c b =>
    have e : gath g ((c :: b).map (fun c => (⟨3, c⟩ : St))) = gath (Gs.add g ⟨3, c⟩) (b.map (fun c => (⟨3, c⟩ : St))) := rfl
    have e2 : Gs.add g ⟨3, c⟩ = ⟨g.endK.parts, 0, g.put, g.drop ++ [c]⟩ := by simp [Gs.add]
    rw [e, e2, key]; simp
theorem gath_keep {g : Gs} : ∀ n : Nat, 0 < n → gath g (List.replicate n ⟨1, 0⟩) = ⟨g.endC.parts, g.keep + n, [], []⟩ := by
  have key : ∀ (n : Nat) (P : List Pt) (k : Nat), gath ⟨P, k, [], []⟩ (List.replicate n ⟨1, 0⟩) = ⟨P, k + n, [], []⟩ := by
    intro n
    induction n with
    | zero => intro P k; simp [gath]
    | succ n ih =>
      intro P k
      have e : gath ⟨P, k, [], []⟩ (List.replicate (n + 1) ⟨1, 0⟩) = gath (Gs.add ⟨P, k, [], []⟩ ⟨1, 0⟩) (List.replicate n ⟨1, 0⟩) := rfl
      have e2 : Gs.add ⟨P, k, [], []⟩ ⟨1, 0⟩ = ⟨P, k + 1, [], []⟩ := by simp [Gs.add, Gs.endC]
      rw [e, e2, ih]
      congr 1
      omega
  intro n hn
  cases n with
  | zero => omega
  | succ n =>
    have e : gath g (List.replicate (n + 1) ⟨1, 0⟩) = gath (Gs.add g ⟨1, 0⟩) (List.replicate n ⟨1, 0⟩) := rfl
    have e2 : Gs.add g ⟨1, 0⟩ = ⟨g.endC.parts, g.keep + 1, [], []⟩ := by simp [Gs.add]
    rw [e, e2, key]
    congr 1
    omega

/-- One part more behind a normal change, as the model has it. -/
def addP (op : List Pt) (p : Pt) : List Pt :=
  if p.keep = 0 ∧ p.put.data.toList = [] ∧ p.drop.data.toList = [] then op
  else match op.getLast? with
  | none => op ++ [p]
  | some last =>
    if 0 < p.keep ∧ 0 < last.keep then op.dropLast ++ [⟨last.keep + p.keep, last.put, last.drop⟩]
    else if p.drop.data.toList ≠ [] ∧ last.drop.data.toList ≠ [] then op.dropLast ++ [⟨last.keep, last.put, last.drop ++ p.drop⟩]
    else if p.put.data.toList ≠ [] ∧ last.put.data.toList ≠ [] then op.dropLast ++ [⟨last.keep, last.put ++ p.put, last.drop⟩]
    else if p.put.data.toList ≠ [] ∧ last.drop.data.toList ≠ [] then
      match op.dropLast.getLast? with
      | some l2 => if l2.put.data.toList ≠ [] then op.dropLast.dropLast ++ [⟨l2.keep, l2.put ++ p.put, l2.drop⟩, last] else op.dropLast ++ [p, last]
      | none => op.dropLast ++ [p, last]
    else op ++ [p]
theorem ba_cat (a b : List UInt8) : ba a ++ ba b = ba (a ++ b) := ba_eq (by simp [ba])
theorem kp_pos {n : Nat} (h : 0 < n) : 0 < (kp n).keep := by simp [kp]; omega

theorem add_keep {g : Gs} (h : GI g) {n : Nat} (hn : 0 < n) : addP g.out (kp n) = (gath g (List.replicate n ⟨1, 0⟩)).out := by
  rw [gath_keep n hn, out_eq, out_eq]
  have hk : ¬ ((kp n).keep = 0 ∧ (kp n).put.data.toList = [] ∧ (kp n).drop.data.toList = []) := by simp [kp]; omega
  by_cases h0 : 0 < g.keep
  · obtain ⟨hp, hd⟩ := h.a h0
    have : g.endC.parts = g.parts := by simp [Gs.endC, hp, hd]
    rw [this, hp, hd]
    simp only [if_true, List.append_nil, if_pos h0, if_pos (show 0 < g.keep + n by omega)]
    unfold addP
    rw [if_neg hk, List.getLast?_append]
    simp only [List.getLast?_singleton, Option.some_or, List.dropLast_concat]
    rw [if_pos ⟨kp_pos hn, kp_pos h0⟩]
    simp [kp]
  · have h0' : g.keep = 0 := by omega
    have hlast : ∀ x, (g.parts ++ ((if g.put = [] then [] else [pp g.put]) ++ (if g.drop = [] then [] else [dp g.drop]))).getLast? = some x → ¬ 0 < x.keep := by
      intro x hx
      by_cases hd : g.drop = []
      · by_cases hp : g.put = []
        · rw [h.c h0' hp hd, hp, hd] at hx; simp at hx
        · rw [hd] at hx; simp [hp] at hx; subst hx; simp [pp]
      · simp [hd] at hx; subst hx; simp [dp]
    have hnd : (kp n).drop.data.toList = [] := by simp [kp, ba]
    have hnp : (kp n).put.data.toList = [] := by simp [kp, ba]
    have e : g.endC.parts = g.parts ++ ((if g.put = [] then [] else [pp g.put]) ++ (if g.drop = [] then [] else [dp g.drop])) := rfl
    rw [e]
    simp only [if_neg h0, List.nil_append, if_true, List.append_nil, if_pos (show 0 < g.keep + n by omega)]
    rw [show g.keep + n = n by omega]
    unfold addP
    rw [if_neg hk]
    generalize g.parts ++ ((if g.put = [] then [] else [pp g.put]) ++ (if g.drop = [] then [] else [dp g.drop])) = L at hlast
    cases hL : L.getLast? with
    | none => rfl
    | some x =>
      simp only
      rw [if_neg (fun c => hlast x hL c.2), if_neg (fun c => c.1 hnd), if_neg (fun c => c.1 hnp), if_neg (fun c => c.1 hnp)]
theorem pp_no {b : List UInt8} (hb : b ≠ []) : ¬ ((pp b).keep = 0 ∧ (pp b).put.data.toList = [] ∧ (pp b).drop.data.toList = []) := by
  rintro ⟨_, h, _⟩
  rw [pp, ba_list] at h
  exact hb h
theorem dp_no {b : List UInt8} (hb : b ≠ []) : ¬ ((dp b).keep = 0 ∧ (dp b).put.data.toList = [] ∧ (dp b).drop.data.toList = []) := by
  rintro ⟨_, _, h⟩
  rw [dp, ba_list] at h
  exact hb h
theorem ppP (b : List UInt8) : (pp b).put.data.toList = b := by rw [pp, ba_list]
theorem ppD (b : List UInt8) : (pp b).drop.data.toList = [] := by rw [pp, ba_list]
theorem dpP (b : List UInt8) : (dp b).put.data.toList = [] := by rw [dp, ba_list]
theorem dpD (b : List UInt8) : (dp b).drop.data.toList = b := by rw [dp, ba_list]
theorem kpP (n : Nat) : (kp n).put.data.toList = [] := by rw [kp, ba_list]
theorem kpD (n : Nat) : (kp n).drop.data.toList = [] := by rw [kp, ba_list]

theorem add_put {g : Gs} (h : GI g) {b : List UInt8} (hb : b ≠ []) : addP g.out (pp b) = (gath g (b.map (fun c => (⟨2, c⟩ : St)))).out := by
  rw [gath_put b hb, out_eq, out_eq]
  have hnk : ¬ (0 < (pp b).keep) := by simp [pp]
  have hnd : ¬ ((pp b).drop.data.toList ≠ []) := by rw [ppD]; simp
  have hp : (pp b).put.data.toList ≠ [] := by rw [ppP]; exact hb
  by_cases h0 : 0 < g.keep
  · obtain ⟨hpu, hdr⟩ := h.a h0
    have e : g.endK.parts = g.parts ++ [kp g.keep] := by simp [Gs.endK, h0]
    simp only [e, hpu, hdr, if_pos h0, if_true, List.nil_append, List.append_nil, if_neg hb, Nat.lt_irrefl, if_false]
    unfold addP
    rw [if_neg (pp_no hb), List.getLast?_append]
    simp only [List.getLast?_singleton, Option.some_or]
    rw [if_neg (fun c => hnk c.1), if_neg (fun c => hnd c.1), if_neg (fun c => c.2 (kpP _)), if_neg (fun c => c.2 (kpD _))]
  · have h0' : g.keep = 0 := by omega
    have e : g.endK.parts = g.parts := by simp [Gs.endK, h0]
    by_cases hdr : g.drop = []
    · by_cases hpu : g.put = []
      · have hpa := h.c h0' hpu hdr
        simp only [e, hpa, hpu, hdr, h0', Nat.lt_irrefl, if_true, if_false, List.nil_append, List.append_nil, if_neg hb]
        unfold addP
        rw [if_neg (pp_no hb)]; rfl
      · simp only [e, hdr, h0', Nat.lt_irrefl, if_true, if_false, List.nil_append, List.append_nil, if_neg hpu, if_neg (show g.put ++ b ≠ [] from fun c => hb (List.append_eq_nil_iff.1 c).2)]
        unfold addP
        rw [if_neg (pp_no hb), List.getLast?_append]
        simp only [List.getLast?_singleton, Option.some_or, List.dropLast_concat]
        rw [if_neg (fun c => hnk c.1), if_neg (fun c => hnd c.1), if_pos ⟨hp, by rw [ppP]; exact hpu⟩]
        simp [pp, ba_cat]
    · by_cases hpu : g.put = []
      · simp only [e, hpu, h0', Nat.lt_irrefl, if_true, if_false, List.nil_append, if_neg hdr, if_neg hb]
        unfold addP
        rw [if_neg (pp_no hb), List.getLast?_append]
        simp only [List.getLast?_singleton, Option.some_or, List.dropLast_concat]
        rw [if_neg (fun c => hnk c.1), if_neg (fun c => hnd c.1), if_neg (fun c => c.2 (dpP _)), if_pos ⟨hp, by rw [dpD]; exact hdr⟩]
        rcases h.b h0' with hpa | ⟨r, n, hpa, hn⟩
        · rw [hpa]; rfl
        · rw [hpa, List.getLast?_append]
          simp only [List.getLast?_singleton, Option.some_or]
          rw [if_neg (fun c => c (kpP _))]
          simp
      · simp only [e, h0', Nat.lt_irrefl, if_false, List.nil_append, if_neg hdr, if_neg hpu, if_neg (show g.put ++ b ≠ [] from fun c => hb (List.append_eq_nil_iff.1 c).2)]
        have e1 : g.parts ++ ([pp g.put] ++ [dp g.drop]) = (g.parts ++ [pp g.put]) ++ [dp g.drop] := by simp
        unfold addP
        rw [if_neg (pp_no hb), e1, List.getLast?_append]
        simp only [List.getLast?_singleton, Option.some_or, List.dropLast_concat]
        rw [if_neg (fun c => hnk c.1), if_neg (fun c => hnd c.1), if_neg (fun c => c.2 (dpP _)), if_pos ⟨hp, by rw [dpD]; exact hdr⟩, List.getLast?_append]
        simp only [List.getLast?_singleton, Option.some_or]
        rw [if_pos (by rw [ppP]; exact hpu)]
        simp [pp, ba_cat]

theorem add_drop {g : Gs} (h : GI g) {b : List UInt8} (hb : b ≠ []) : addP g.out (dp b) = (gath g (b.map (fun c => (⟨3, c⟩ : St)))).out := by
  rw [gath_drop b hb, out_eq, out_eq]
  have hnk : ¬ (0 < (dp b).keep) := by simp [dp]
  have hnp : ¬ ((dp b).put.data.toList ≠ []) := by rw [dpP]; simp
  have hd : (dp b).drop.data.toList ≠ [] := by rw [dpD]; exact hb
  by_cases h0 : 0 < g.keep
  · obtain ⟨hpu, hdr⟩ := h.a h0
    have e : g.endK.parts = g.parts ++ [kp g.keep] := by simp [Gs.endK, h0]
    simp only [e, hpu, hdr, if_pos h0, if_true, List.nil_append, List.append_nil, if_neg hb, Nat.lt_irrefl, if_false]
    unfold addP
    rw [if_neg (dp_no hb), List.getLast?_append]
    simp only [List.getLast?_singleton, Option.some_or]
    rw [if_neg (fun c => hnk c.1), if_neg (fun c => c.2 (kpD _)), if_neg (fun c => hnp c.1), if_neg (fun c => hnp c.1)]
  · have h0' : g.keep = 0 := by omega
    have e : g.endK.parts = g.parts := by simp [Gs.endK, h0]
    by_cases hdr : g.drop = []
    · by_cases hpu : g.put = []
      · have hpa := h.c h0' hpu hdr
        simp only [e, hpa, hpu, hdr, h0', Nat.lt_irrefl, if_true, if_false, List.nil_append, if_neg hb]
        unfold addP
        rw [if_neg (dp_no hb)]; rfl
      · simp only [e, hdr, h0', Nat.lt_irrefl, if_true, if_false, List.nil_append, List.append_nil, if_neg hpu, if_neg hb]
        unfold addP
        rw [if_neg (dp_no hb), List.getLast?_append]
        simp only [List.getLast?_singleton, Option.some_or]
        rw [if_neg (fun c => hnk c.1), if_neg (fun c => c.2 (ppD _)), if_neg (fun c => hnp c.1), if_neg (fun c => hnp c.1)]
        simp
    · have e1 : g.parts ++ ((if g.put = [] then [] else [pp g.put]) ++ [dp g.drop]) = (g.parts ++ (if g.put = [] then [] else [pp g.put])) ++ [dp g.drop] := by simp
      simp only [e, h0', Nat.lt_irrefl, if_false, List.nil_append, if_neg hdr, if_neg (show g.drop ++ b ≠ [] from fun c => hb (List.append_eq_nil_iff.1 c).2)]
      rw [e1]
      unfold addP
      rw [if_neg (dp_no hb), List.getLast?_append]
      simp only [List.getLast?_singleton, Option.some_or, List.dropLast_concat]
      rw [if_neg (fun c => hnk c.1), if_pos ⟨hd, by rw [dpD]; exact hdr⟩]
      simp [dp, ba_cat]

/-- The gathering goes on standing so. -/
theorem gi_add {g : Gs} (h : GI g) (x : St) : GI (g.add x) := by
  unfold Gs.add
  split
  · exact ⟨fun _ => ⟨rfl, rfl⟩, fun h0 => by simp at h0, fun h0 => by simp at h0⟩
  · have hb : g.endK.parts = [] ∨ ∃ r n, g.endK.parts = r ++ [kp n] ∧ 0 < n := by
      unfold Gs.endK
      by_cases h0 : 0 < g.keep
      · exact Or.inr ⟨g.parts, g.keep, by simp [h0], h0⟩
      · simp only [if_neg h0, List.append_nil]
        exact h.b (by omega)
    split
    · exact ⟨fun h0 => by simp at h0, fun _ => hb, fun _ h1 _ => by simp at h1⟩
    · split
      · exact ⟨fun h0 => by simp at h0, fun _ => hb, fun _ _ h1 => by simp at h1⟩
      · exact h
theorem gi_gath : ∀ (l : List St) (g : Gs), GI g → GI (gath g l)
  | [], _, h => h
  | x :: l, g, h => gi_gath l (g.add x) (gi_add h x)
/-- A good part is put behind a normal change just as its steps are gathered. -/
theorem add_part {g : Gs} (h : GI g) {p : Pt} (hp : pk p ≠ 0) : addP g.out p = (gath g (stp p)).out := by
  unfold pk at hp
  split at hp
  · rename_i hh
    obtain ⟨n, hn⟩ : ∃ n : Nat, p.keep = n := ⟨p.keep.toNat, by omega⟩
    have e : p = kp n := by
      have h1 : p.put = ba [] := ba_eq (by rw [hh.1, ba_list])
      have h2 : p.drop = ba [] := ba_eq (by rw [hh.2.1, ba_list])
      cases p; simp only at hn h1 h2; subst hn h1 h2; rfl
    rw [e, add_keep h (by omega)]
    congr 2
    simp [stp, kp, ba]
  · split at hp
    · rename_i hh
      have e : p = pp p.put.data.toList := by
        have h2 : p.drop = ba [] := ba_eq (by rw [hh.2.1, ba_list])
        have h1 := hh.1
        cases p; simp only at h1 h2; subst h1 h2; rw [pp, ba_of]
      obtain ⟨b, he, hb⟩ : ∃ b, p = pp b ∧ b ≠ [] := ⟨_, e, hh.2.2.1⟩
      rw [he, add_put h hb]
      congr 2
      simp [stp, pp, ba]
    · split at hp
      · rename_i hh
        have e : p = dp p.drop.data.toList := by
          have h2 : p.put = ba [] := ba_eq (by rw [hh.2.1, ba_list])
          have h1 := hh.1
          cases p; simp only at h1 h2; subst h1 h2; rw [dp, ba_of]
        obtain ⟨b, he, hb⟩ : ∃ b, p = dp b ∧ b ≠ [] := ⟨_, e, hh.2.2.1⟩
        rw [he, add_drop h hb]
        congr 2
      · exact absurd rfl hp
/-- The normal change, as the model has it, and as it is gathered. -/
def normL (l : List Pt) : List Pt := l.foldl addP []
theorem norm_gath (l : List Pt) (h : ∀ p ∈ l, pk p ≠ 0) : normL l = (gath g0 (stL l)).out := by
  have key : ∀ (l : List Pt) (g : Gs), GI g → (∀ p ∈ l, pk p ≠ 0) → l.foldl addP g.out = (gath g (stL l)).out := by
    intro l
    induction l with
    | nil => intro g _ _; rfl
    | cons p l ih =>
      intro g hg hp
      have e : stL (p :: l) = stp p ++ stL l := by simp [stL]
      rw [List.foldl_cons, add_part hg (hp p (by simp)), ih _ (gi_gath _ _ hg) (fun q hq => hp q (by simp [hq])), e, gath_app]
  exact key l g0 gi0 h
end Go.Proofs.YtbmnciejaknonauDoor.Doc1
