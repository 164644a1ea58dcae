/- The plain mathematics of chapter 2, on: what each node takes of the text. -/
import Derived.Test.YtbmnciejaknonauDoorTree4
namespace Go.Proofs.YtbmnciejaknonauDoor.Doc1

def ndAt (l : List Nd) (k : Nat) : Nd := l.getD k ⟨ba [], ba [], -1⟩
def nmL (l : List Nd) (k : Nat) : List UInt8 := (ndAt l k).name.data.toList
def txL (l : List Nd) (k : Nat) : List UInt8 := (ndAt l k).text.data.toList
def slL (l : List Nd) (k : Nat) : List UInt8 := if nmL l k = [] then [] else [slash]
theorem ndAt_pre {l : List Nd} (n : Nd) {k : Nat} (h : k < l.length) : ndAt (l ++ [n]) k = ndAt l k := by
  unfold ndAt; rw [List.getD_eq_getElem?_getD, List.getD_eq_getElem?_getD, List.getElem?_append_left h]
theorem ndAt_new (l : List Nd) (n : Nd) : ndAt (l ++ [n]) l.length = n := by
  unfold ndAt; rw [List.getD_eq_getElem?_getD]; simp
/-- Where what lies in a node ends, of the nodes ahead of i. -/
def ce (l : List Nd) (fr to : List Nat) (k : Nat) : Nat → Nat
  | 0 => fr.getD k 0 + (nmL l k).length + (txL l k).length
  | i + 1 => if k < i ∧ (ndAt l i).up = (k : Int) then to.getD i 0 else ce l fr to k i
/-- How nodes lie in the text. -/
structure Tile (l : List Nd) (text : List UInt8) (fr to op : List Nat) : Prop where
  nf : fr.length = l.length
  nt : to.length = l.length
  t1 : ∀ i, 0 < i → i < l.length → ∃ u : Nat, (ndAt l i).up = (u : Int) ∧ u < i ∧ fr.getD i 0 = ce l fr to u i
  t2 : ∀ k, k < l.length → k ∉ op → to.getD k 0 = ce l fr to k l.length + (slL l k).length
  b1 : ∀ k, k < l.length → (text.drop (fr.getD k 0)).take ((nmL l k).length + (txL l k).length) = nmL l k ++ txL l k ∧ fr.getD k 0 + (nmL l k).length + (txL l k).length ≤ text.length
  b2 : ∀ k, k < l.length → k ∉ op → nmL l k ≠ [] → text[ce l fr to k l.length]? = some slash
  inn : ∀ o r, op = o :: r → text.length = ce l fr to o l.length
  ch : ∀ a o o' r, op = a ++ o :: o' :: r → (ndAt l o).up = (o' : Int) ∧ ∀ i, o < i → i < l.length → (ndAt l i).up ≠ (o' : Int)
  lt : ∀ o ∈ op, o < l.length
  desc : Desc op
  nam : ∀ o ∈ op, o ≠ 0 → nmL l o ≠ []
  root : nmL l 0 = []
theorem ce_set {l : List Nd} {fr to : List Nat} {o k x : Nat} : ∀ i, (∀ j, j < i → k < j → (ndAt l j).up = (k : Int) → j ≠ o) → ce l fr (to.set o x) k i = ce l fr to k i
  | 0, _ => rfl
  | i + 1, h => by
    unfold ce
    rw [ce_set i (fun j hj => h j (by omega))]
    by_cases hc : k < i ∧ (ndAt l i).up = (k : Int)
    · rw [if_pos hc, if_pos hc]
      have := h i (by omega) hc.1 hc.2
      rw [List.getD_eq_getElem?_getD, List.getD_eq_getElem?_getD, List.getElem?_set_ne (Ne.symm this)]
    · rw [if_neg hc, if_neg hc]
theorem ce_none {l : List Nd} {fr to : List Nat} {k : Nat} : ∀ i j, j ≤ i → (∀ m, j ≤ m → m < i → k < m → (ndAt l m).up ≠ (k : Int)) → ce l fr to k i = ce l fr to k j
  | 0, j, h, _ => by obtain rfl : j = 0 := by omega
                     rfl
  | i + 1, j, h, hn => by
    by_cases e : j = i + 1
    · subst e; rfl
    · conv => lhs; unfold ce
      rw [if_neg (fun hc => hn i (by omega) (by omega) hc.1 hc.2)]
      exact ce_none i j (by omega) (fun m h1 h2 => hn m h1 (by omega))
theorem ce_app {l : List Nd} {fr to : List Nat} (n : Nd) (x y : Nat) {k : Nat} (hk : k < l.length) (hf : fr.length = l.length) (ht : to.length = l.length) : ∀ i, i ≤ l.length → ce (l ++ [n]) (fr ++ [x]) (to ++ [y]) k i = ce l fr to k i
  | 0, _ => by
    unfold ce nmL txL
    rw [ndAt_pre n hk, List.getD_eq_getElem?_getD, List.getD_eq_getElem?_getD, List.getElem?_append_left (by omega)]
  | i + 1, h => by
    unfold ce
    rw [ce_app n x y hk hf ht i (by omega), ndAt_pre n (by omega), List.getD_eq_getElem?_getD (l := to ++ [y]), List.getElem?_append_left (by omega), ← List.getD_eq_getElem?_getD]
/-- One element ends. -/
theorem tile_pop {l : List Nd} {text : List UInt8} {fr to : List Nat} {o o' : Nat} {r : List Nat} (h : Tile l text fr to (o :: o' :: r)) : Tile l (text ++ [slash]) fr (to.set o (text.length + 1)) (o' :: r) := by
  obtain ⟨hup, hno⟩ := h.ch [] o o' r rfl
  have hol := h.lt o (by simp)
  have hD := List.pairwise_cons.1 h.desc
  have hoo : o' < o := hD.1 o' (by simp)
  have hon : o ∉ o' :: r := fun hm => by have := hD.1 o hm; omega
  have hne : ∀ k, k ≠ o' → ∀ i, ce l fr (to.set o (text.length + 1)) k i = ce l fr to k i := fun k hk i => ce_set i (fun j _ _ hj e => by subst e; rw [hup] at hj; omega)
  have hin := h.inn o (o' :: r) rfl
  have hto : (to.set o (text.length + 1)).getD o 0 = text.length + 1 := by
    rw [List.getD_eq_getElem?_getD, List.getElem?_set_self (by rw [h.nt]; exact hol)]; rfl
  refine ⟨h.nf, by rw [List.length_set]; exact h.nt, ?_, ?_, ?_, ?_, ?_, ?_, fun x hx => h.lt x (List.mem_cons_of_mem _ hx), hD.2, fun x hx => h.nam x (List.mem_cons_of_mem _ hx), h.root⟩
  · intro i h0 hi
    obtain ⟨u, h1, h2, h3⟩ := h.t1 i h0 hi
    refine ⟨u, h1, h2, ?_⟩
    by_cases e : u = o'
    · subst e
      rw [h3]
      have hio : i ≤ o := by
        apply Classical.byContradiction
        intro hn
        exact hno i (by omega) hi h1
      exact (ce_set i (fun j hj _ _ => by omega)).symm
    · rw [hne u e]; exact h3
  · intro k hk hkn
    by_cases e : k = o
    · subst e
      rw [hto, hne k (by omega), ← hin]
      have := h.nam k (by simp) (by omega)
      simp [slL, this]
    · have hk' : k ∉ o :: o' :: r := by simp only [List.mem_cons, not_or] at hkn ⊢; exact ⟨e, hkn⟩
      have hko : k ≠ o' := fun e' => hkn (by rw [e']; simp)
      rw [hne k hko, ← h.t2 k hk hk', List.getD_eq_getElem?_getD, List.getD_eq_getElem?_getD, List.getElem?_set_ne (Ne.symm e)]
  · intro k hk
    obtain ⟨h1, h2⟩ := h.b1 k hk
    refine ⟨?_, by rw [List.length_append]; omega⟩
    rw [List.drop_append_of_le_length (by omega), List.take_append_of_le_length (by rw [List.length_drop]; omega)]
    exact h1
  · intro k hk hkn hnm
    by_cases e : k = o
    · subst e
      rw [hne k (by omega), ← hin]; simp
    · have hk' : k ∉ o :: o' :: r := by simp only [List.mem_cons, not_or] at hkn ⊢; exact ⟨e, hkn⟩
      have hko : k ≠ o' := fun e' => hkn (by rw [e']; simp)
      rw [hne k hko]
      have hb := h.b2 k hk hk' hnm
      rw [List.getElem?_append_left (List.getElem?_eq_some_iff.1 hb).1]; exact hb
  · intro x y hxy
    injection hxy with e1 e2
    subst e1
    rw [ce_none l.length (o + 1) (by omega) (fun m h1 h2 _ => hno m (by omega) h2)]
    unfold ce
    rw [if_pos ⟨hoo, hup⟩, hto]; simp
  · intro a x x' y hxy
    exact h.ch (o :: a) x x' y (by rw [hxy]; rfl)
theorem tile_end {l : List Nd} (u : Int) : ∀ (op : List Nat) (text : List UInt8) (fr to : List Nat) (y : LS), Tile l text fr to op → endI text fr to op u = some y → Tile l y.text y.fr y.to y.op
  | [], _, _, _, _, _, h => by simp [endI] at h
  | [o], text, fr, to, y, ht, h => by
    unfold endI at h
    split at h
    · cases h; exact ht
    · simp [endI] at h
  | o :: o' :: r, text, fr, to, y, ht, h => by
    unfold endI at h
    split at h
    · cases h; exact ht
    · exact tile_end u (o' :: r) _ _ _ y (tile_pop ht) h

theorem getD_pre {l : List Nat} (x : Nat) {k : Nat} (h : k < l.length) : (l ++ [x]).getD k 0 = l.getD k 0 := by
  rw [List.getD_eq_getElem?_getD, List.getD_eq_getElem?_getD, List.getElem?_append_left h]
theorem getD_new (l : List Nat) (x : Nat) : (l ++ [x]).getD l.length 0 = x := by
  rw [List.getD_eq_getElem?_getD]; simp
theorem slL_pre {l : List Nd} (n : Nd) {k : Nat} (h : k < l.length) : slL (l ++ [n]) k = slL l k := by unfold slL nmL; rw [ndAt_pre n h]
/-- A node is put behind all others: an element, or a run. -/
theorem tile_add {l : List Nd} {text : List UInt8} {fr to : List Nat} {u : Nat} {r : List Nat} (h : Tile l text fr to (u :: r)) (n : Nd) (hu : n.up = (u : Int)) (el : Bool) (hel : el = true → n.name.data.toList ≠ []) (hrn : el = false → n.name.data.toList = []) :
    Tile (l ++ [n]) (text ++ (n.name.data.toList ++ n.text.data.toList)) (fr ++ [text.length]) (to ++ [text.length + (n.name.data.toList ++ n.text.data.toList).length]) (if el then l.length :: u :: r else u :: r) := by
  have hul := h.lt u (by simp)
  have hin := h.inn u r rfl
  have A := fun {k : Nat} (hk : k < l.length) => ce_app (l := l) (fr := fr) (to := to) n text.length (text.length + (n.name.data.toList ++ n.text.data.toList).length) hk h.nf h.nt
  obtain ⟨H, hH⟩ : ∃ H, H = n.name.data.toList ++ n.text.data.toList := ⟨_, rfl⟩
  rw [← hH] at A ⊢
  have hHl : H.length = n.name.data.toList.length + n.text.data.toList.length := by rw [hH, List.length_append]
  have nmN : nmL (l ++ [n]) l.length = n.name.data.toList := by unfold nmL; rw [ndAt_new]
  have txN : txL (l ++ [n]) l.length = n.text.data.toList := by unfold txL; rw [ndAt_new]
  have frN : (fr ++ [text.length]).getD l.length 0 = text.length := by rw [← h.nf]; exact getD_new _ _
  have toN : (to ++ [text.length + H.length]).getD l.length 0 = text.length + H.length := by rw [← h.nt]; exact getD_new _ _
  have last : ∀ k, k < l.length → k ≠ u → ce (l ++ [n]) (fr ++ [text.length]) (to ++ [text.length + H.length]) k (l ++ [n]).length = ce l fr to k l.length := by
    intro k hk hku
    rw [List.length_append, List.length_singleton]
    conv => lhs; unfold ce
    rw [if_neg (fun hc => hku (by rw [ndAt_new, hu] at hc; omega))]
    exact A hk l.length (Nat.le_refl _)
  have lastN : ce (l ++ [n]) (fr ++ [text.length]) (to ++ [text.length + H.length]) l.length (l ++ [n]).length = text.length + H.length := by
    rw [ce_none (l ++ [n]).length 0 (Nat.zero_le _) (fun m _ h2 h3 => by rw [List.length_append, List.length_singleton] at h2; omega)]
    show (fr ++ [text.length]).getD l.length 0 + (nmL (l ++ [n]) l.length).length + (txL (l ++ [n]) l.length).length = _
    rw [frN, nmN, txN]; omega
  have hops : ∀ x, x ∈ (if el then l.length :: u :: r else u :: r) → x = l.length ∧ el = true ∨ x ∈ u :: r := by
    intro x hx
    cases el with
    | true => rcases List.mem_cons.1 hx with rfl | hx
              · exact Or.inl ⟨rfl, rfl⟩
              · exact Or.inr hx
    | false => exact Or.inr hx
  have hsub : ∀ x, x ∈ u :: r → x ∈ (if el then l.length :: u :: r else u :: r) := by
    intro x hx
    cases el with
    | true => exact List.mem_cons_of_mem _ hx
    | false => exact hx
  refine ⟨by simp [h.nf], by simp [h.nt], ?_, ?_, ?_, ?_, ?_, ?_, ?_, ?_, ?_, ?_⟩
  · intro i h0 hi
    rw [List.length_append, List.length_singleton] at hi
    by_cases e : i = l.length
    · subst e
      exact ⟨u, by rw [ndAt_new]; exact hu, hul, by rw [frN, A hul l.length (Nat.le_refl _)]; exact hin⟩
    · obtain ⟨v, h1, h2, h3⟩ := h.t1 i h0 (by omega)
      exact ⟨v, by rw [ndAt_pre n (by omega)]; exact h1, h2, by rw [getD_pre _ (by rw [h.nf]; omega), A (by omega) i (by omega)]; exact h3⟩
  · intro k hk hkn
    rw [List.length_append, List.length_singleton] at hk
    by_cases e : k = l.length
    · subst e
      have : el = false := by
        cases el with
        | false => rfl
        | true => exact absurd (by simp) hkn
      rw [toN, lastN]
      simp [slL, nmN, hrn this]
    · have hku : k ≠ u := fun e' => hkn (hsub k (by rw [e']; simp))
      rw [last k (by omega) hku, slL_pre n (by omega), getD_pre _ (by rw [h.nt]; omega)]
      exact h.t2 k (by omega) (fun hm => hkn (hsub k hm))
  · intro k hk
    rw [List.length_append, List.length_singleton] at hk
    by_cases e : k = l.length
    · subst e
      rw [frN, nmN, txN, List.drop_left, ← hHl, List.take_length, List.length_append]
      exact ⟨hH, by omega⟩
    · obtain ⟨h1, h2⟩ := h.b1 k (by omega)
      have e1 : nmL (l ++ [n]) k = nmL l k := by unfold nmL; rw [ndAt_pre n (by omega)]
      have e2 : txL (l ++ [n]) k = txL l k := by unfold txL; rw [ndAt_pre n (by omega)]
      rw [getD_pre _ (by rw [h.nf]; omega), e1, e2]
      refine ⟨?_, by rw [List.length_append]; omega⟩
      rw [List.drop_append_of_le_length (by omega), List.take_append_of_le_length (by rw [List.length_drop]; omega)]
      exact h1
  · intro k hk hkn hnm
    rw [List.length_append, List.length_singleton] at hk
    by_cases e : k = l.length
    · subst e
      exfalso
      cases hE : el with
      | true => rw [hE] at hkn; exact hkn (by simp)
      | false => rw [nmN] at hnm; exact hnm (hrn hE)
    · have hku : k ≠ u := fun e' => hkn (hsub k (by rw [e']; simp))
      rw [last k (by omega) hku]
      have hb := h.b2 k (by omega) (fun hm => hkn (hsub k hm)) (by unfold nmL at hnm ⊢; rwa [ndAt_pre n (by omega)] at hnm)
      rw [List.getElem?_append_left (List.getElem?_eq_some_iff.1 hb).1]; exact hb
  · intro o q ho
    cases hE : el with
    | true =>
      rw [hE] at ho
      injection ho with e1 _
      subst e1
      rw [lastN]; simp
    | false =>
      rw [hE] at ho
      injection ho with e1 _
      subst e1
      rw [List.length_append, show (l ++ [n]).length = l.length + 1 by simp]
      unfold ce
      rw [if_pos ⟨hul, by rw [ndAt_new]; exact hu⟩, toN]
  · intro a o o' q ho
    have old : ∀ a o o' q, u :: r = a ++ o :: o' :: q → (ndAt (l ++ [n]) o).up = (o' : Int) ∧ ∀ i, o < i → i < (l ++ [n]).length → (ndAt (l ++ [n]) i).up ≠ (o' : Int) := by
      intro a o o' q ho
      obtain ⟨h1, h2⟩ := h.ch a o o' q ho
      have hol := h.lt o (by rw [ho]; simp)
      refine ⟨by rw [ndAt_pre n hol]; exact h1, fun i g1 g2 => ?_⟩
      rw [List.length_append, List.length_singleton] at g2
      by_cases e : i = l.length
      · subst e
        rw [ndAt_new, hu]
        have hD := h.desc
        rw [ho] at hD
        have hlt : o' < u := by
          cases a with
          | nil =>
            injection ho with e1 _
            subst e1
            exact (List.pairwise_cons.1 hD).1 o' (by simp)
          | cons x a =>
            injection ho with e1 e2
            subst e1
            exact (List.pairwise_cons.1 hD).1 o' (by simp)
        omega
      · rw [ndAt_pre n (by omega)]; exact h2 i g1 (by omega)
    cases hE : el with
    | false => rw [hE] at ho; exact old a o o' q ho
    | true =>
      rw [hE] at ho
      cases a with
      | nil =>
        injection ho with e1 e2
        injection e2 with e2 _
        subst e1 e2
        exact ⟨by rw [ndAt_new]; exact hu, fun i g1 g2 => by rw [List.length_append, List.length_singleton] at g2; omega⟩
      | cons x a =>
        injection ho with _ e2
        exact old a o o' q e2
  · intro x hx
    rw [List.length_append, List.length_singleton]
    rcases hops x hx with ⟨rfl, _⟩ | hx
    · omega
    · have := h.lt x hx; omega
  · cases hE : el with
    | false => exact h.desc
    | true => exact List.pairwise_cons.2 ⟨fun x hx => h.lt x hx, h.desc⟩
  · intro x hx h0
    rcases hops x hx with ⟨rfl, he⟩ | hx
    · rw [nmN]; exact hel he
    · have := h.nam x hx h0
      unfold nmL at this ⊢
      rwa [ndAt_pre n (h.lt x hx)]
  · have hl0 : 0 < l.length := by omega
    have := h.root
    unfold nmL at this ⊢
    rwa [ndAt_pre n hl0]

theorem endI_head (u : Int) : ∀ (op : List Nat) (text : List UInt8) (fr to : List Nat) (y : LS), endI text fr to op u = some y → ∃ o r, y.op = o :: r ∧ (o : Int) = u
  | [], _, _, _, _, h => by simp [endI] at h
  | o :: r, text, fr, to, y, h => by
    unfold endI at h
    split at h
    · rename_i he
      cases h
      exact ⟨o, r, rfl, he⟩
    · exact endI_head u r _ _ _ y h
theorem tile_addN {l : List Nd} {z y : LS} {n : Nd} (h : Tile l z.text z.fr z.to z.op) (hl : l ≠ []) (ha : addN z n = some y) : Tile (l ++ [n]) y.text y.fr y.to y.op := by
  unfold addN at ha
  split at ha
  · split at ha
    · rename_i h0
      have := h.nf
      rw [h0] at this
      exact absurd (List.length_eq_zero_iff.1 this.symm) hl
    · cases ha
  · rename_i hsh
    have hsn : isNm n.name.data.toList = true ∧ n.text.data.toList = [] := by
      unfold shp at hsh
      split at hsh
      · cases hsh
      · split at hsh
        · assumption
        · split at hsh <;> cases hsh
    cases he : z.endInto n.up with
    | none => rw [he] at ha; simp at ha
    | some x =>
      rw [he] at ha
      simp only [Option.map_some, Option.some.injEq] at ha
      subst ha
      have hx := tile_end n.up _ _ _ _ x h he
      obtain ⟨o, r, hop, hou⟩ : ∃ o r, x.op = o :: r ∧ (o : Int) = n.up := endI_head _ _ _ _ _ _ he
      rw [hop] at hx
      obtain ⟨c, hc, _⟩ := nm_of hsn.1
      have := tile_add hx n hou.symm true (fun _ => by rw [hc]; simp) (fun h => by cases h)
      have hxl : x.fr.length = l.length := hx.nf
      simp only [if_true, hsn.2, List.append_nil] at this
      show Tile (l ++ [n]) (x.text ++ n.name.data.toList) (x.fr ++ [x.text.length]) (x.to ++ [x.text.length + n.name.data.toList.length]) (x.fr.length :: x.op)
      rw [hxl, hop]
      exact this
  · rename_i hsh
    have hsn : n.name.data.toList = [] ∧ isRn n.text.data.toList = true := by
      unfold shp at hsh
      split at hsh
      · cases hsh
      · split at hsh
        · cases hsh
        · split at hsh
          · assumption
          · cases hsh
    cases he : z.endInto n.up with
    | none => rw [he] at ha; simp at ha
    | some x =>
      rw [he] at ha
      simp only [Option.bind_some] at ha
      split at ha
      · cases ha
      · simp only [Option.some.injEq] at ha
        subst ha
        have hx := tile_end n.up _ _ _ _ x h he
        obtain ⟨o, r, hop, hou⟩ : ∃ o r, x.op = o :: r ∧ (o : Int) = n.up := endI_head _ _ _ _ _ _ he
        rw [hop] at hx
        have := tile_add hx n hou.symm false (fun h => by cases h) (fun _ => hsn.1)
        simp only [hsn.1, List.nil_append] at this
        show Tile (l ++ [n]) (x.text ++ n.text.data.toList) (x.fr ++ [x.text.length]) (x.to ++ [x.text.length + n.text.data.toList.length]) x.op
        rw [hop]
        exact this
  · cases ha
theorem tile_start : Tile [⟨ba [], ba [], -1⟩] [] [0] [0] [0] where
  nf := rfl
  nt := rfl
  t1 := fun i h0 hi => by simp at hi; omega
  t2 := fun k hk hn => by simp at hk; subst hk; simp at hn
  b1 := fun k hk => by simp at hk; subst hk; simp [nmL, txL, ndAt, ba_list]
  b2 := fun k hk hn _ => by simp at hk; subst hk; simp at hn
  inn := fun o r h => by
    injection h with h1 _
    subst h1
    simp [ce, nmL, txL, ndAt, ba_list]
  ch := fun a o o' r h => by
    have := congrArg List.length h
    simp at this; omega
  lt := fun o ho => by simp at ho; subst ho; simp
  desc := by simp [Desc]
  nam := fun o ho h0 => by simp at ho; exact absurd ho h0
  root := by simp [nmL, ndAt, ba_list]
theorem tile_all : ∀ (b : List Nd) (l : List Nd) (z y : LS), Tile l z.text z.fr z.to z.op → l ≠ [] → addAll z b = some y → Tile (l ++ b) y.text y.fr y.to y.op
  | [], l, z, y, h, _, ha => by simp [addAll] at ha; subst ha; simpa using h
  | n :: b, l, z, y, h, hl, ha => by
    unfold addAll at ha
    cases he : addN z n with
    | none => rw [he] at ha; simp at ha
    | some x =>
      rw [he] at ha
      have := tile_all b (l ++ [n]) x y (tile_addN h hl he) (by simp) ha
      simpa using this
/-- How the nodes of a whole layout lie. -/
theorem tile_lay {l : List Nd} {z y : LS} (h : addAll z0 l = some z) (hl : l ≠ []) (he : z.endInto 0 = some y) : Tile l y.text y.fr y.to y.op ∧ y.op = [0] := by
  match l, hl, h with
  | n :: b, _, h =>
    unfold addAll at h
    cases hn : addN z0 n with
    | none => rw [hn] at h; simp at h
    | some x =>
      rw [hn] at h
      obtain ⟨_, h1, h2⟩ := addN_first hn
      subst h1 h2
      have hz := tile_all b [_] _ z tile_start (by simp) h
      have hy := tile_end 0 _ _ _ _ y hz he
      refine ⟨hy, ?_⟩
      obtain ⟨o, r, hop, hou⟩ := endI_head _ _ _ _ _ _ he
      obtain rfl : o = 0 := by omega
      rw [hop]
      cases r with
      | nil => rfl
      | cons x r =>
        have hD := hy.desc
        rw [hop] at hD
        have := (List.pairwise_cons.1 hD).1 x (by simp)
        omega
end Go.Proofs.YtbmnciejaknonauDoor.Doc1
