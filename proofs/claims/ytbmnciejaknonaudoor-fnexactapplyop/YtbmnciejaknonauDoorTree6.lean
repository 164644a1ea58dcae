/- The plain mathematics of chapter 2, on: the text of a node, part by part. -/
import Derived.Test.YtbmnciejaknonauDoorTree5
namespace Go.Proofs.YtbmnciejaknonauDoor.Doc1

/-- The parts of a node ahead of i. -/
def kidsU (l : List Nd) (k : Nat) : Nat → List Nat
  | 0 => []
  | i + 1 => if k < i ∧ (ndAt l i).up = (k : Int) then kidsU l k i ++ [i] else kidsU l k i
def kids (l : List Nd) (k : Nat) : List Nat := kidsU l k l.length
theorem kidsU_mem {l : List Nd} {k x : Nat} : ∀ i, x ∈ kidsU l k i → k < x ∧ x < i ∧ (ndAt l x).up = (k : Int)
  | 0, h => by simp [kidsU] at h
  | i + 1, h => by
    unfold kidsU at h
    split at h
    · rename_i hc
      rcases List.mem_append.1 h with h | h
      · have := kidsU_mem i h; exact ⟨this.1, by omega, this.2.2⟩
      · simp at h; subst h; exact ⟨hc.1, by omega, hc.2⟩
    · have := kidsU_mem i h; exact ⟨this.1, by omega, this.2.2⟩
/-- The text of a node. -/
def fl (l : List Nd) (k : Nat) : List UInt8 := nmL l k ++ (txL l k ++ (kids l k).attach.flatMap (fun x => fl l x.1)) ++ slL l k
termination_by l.length - k
decreasing_by
  have := kidsU_mem l.length x.2
  omega
theorem attach_flat {α β : Type} (l : List α) (f : α → List β) : l.attach.flatMap (fun x => f x.1) = l.flatMap f := by
  have := List.attach_map_subtype_val l
  conv => rhs; rw [← this]
  rw [List.flatMap_map]
theorem fl_eq (l : List Nd) (k : Nat) : fl l k = nmL l k ++ (txL l k ++ (kids l k).flatMap (fl l)) ++ slL l k := by
  rw [fl, attach_flat]
/-- A stretch of a text. -/
def seg (t : List UInt8) (a b : Nat) : List UInt8 := (t.drop a).take (b - a)
theorem seg_app (t : List UInt8) {a b c : Nat} (h1 : a ≤ b) (h2 : b ≤ c) : seg t a b ++ seg t b c = seg t a c := by
  unfold seg
  rw [show c - a = (b - a) + (c - b) by omega, List.take_add, List.drop_drop, show a + (b - a) = b by omega]
theorem seg_nil (t : List UInt8) (a : Nat) : seg t a a = [] := by simp [seg]
theorem seg_len (t : List UInt8) {a b : Nat} (h : b ≤ t.length) : (seg t a b).length = b - a := by simp [seg]; omega
/-- Where a node ends. -/
def en (l : List Nd) (fr to : List Nat) (k : Nat) : Nat := ce l fr to k l.length + (slL l k).length
section
variable {l : List Nd} {text : List UInt8} {fr to : List Nat}
theorem to_en (h : Tile l text fr to [0]) {i : Nat} (h0 : 0 < i) (hi : i < l.length) : to.getD i 0 = en l fr to i := h.t2 i hi (by simp; omega)
theorem ce_bd (h : Tile l text fr to [0]) : ∀ (d k : Nat), l.length - k ≤ d → k < l.length → ∀ i, i ≤ l.length → fr.getD k 0 + (nmL l k).length + (txL l k).length ≤ ce l fr to k i ∧ ce l fr to k i ≤ text.length
  | 0, k, hd, hk, _, _ => by omega
  | d + 1, k, hd, hk, i, hi => by
    induction i with
    | zero => exact ⟨Nat.le_refl _, (h.b1 k hk).2⟩
    | succ i ih =>
      have ih := ih (by omega)
      unfold ce
      split
      · rename_i hc
        obtain ⟨u, h1, h2, h3⟩ := h.t1 i (by omega) (by omega)
        obtain rfl : u = k := by have := hc.2; omega
        have hb := ce_bd h d i (by omega) (by omega) l.length (Nat.le_refl _)
        rw [to_en h (by omega) (by omega)]
        unfold en
        refine ⟨by omega, ?_⟩
        unfold slL
        split
        · simp; exact hb.2
        · rename_i hn
          have := h.b2 i (by omega) (by simp; omega) hn
          have := (List.getElem?_eq_some_iff.1 this).1
          simp; omega
      · exact ih
theorem seg_head (h : Tile l text fr to [0]) {k : Nat} (hk : k < l.length) : seg text (fr.getD k 0) (fr.getD k 0 + (nmL l k).length) = nmL l k ∧ seg text (fr.getD k 0 + (nmL l k).length) (fr.getD k 0 + (nmL l k).length + (txL l k).length) = txL l k := by
  obtain ⟨h1, h2⟩ := h.b1 k hk
  have e1 : seg text (fr.getD k 0) (fr.getD k 0 + (nmL l k).length + (txL l k).length) = nmL l k ++ txL l k := by
    unfold seg; rw [← h1]; congr 1; omega
  rw [← seg_app text (b := fr.getD k 0 + (nmL l k).length) (by omega) (by omega)] at e1
  exact List.append_inj e1 (by rw [seg_len _ (by omega)]; omega)
theorem seg_tail (h : Tile l text fr to [0]) {k : Nat} (hk : k < l.length) : seg text (ce l fr to k l.length) (en l fr to k) = slL l k ∧ en l fr to k ≤ text.length := by
  have hb := ce_bd h (l.length - k) k (Nat.le_refl _) hk l.length (Nat.le_refl _)
  unfold en slL
  split
  · simp [seg_nil]; exact hb.2
  · rename_i hn
    have h0 : k ≠ 0 := by rintro rfl; exact hn h.root
    have hs := h.b2 k hk (by simp; exact h0) hn
    obtain ⟨h1, h2⟩ := List.getElem?_eq_some_iff.1 hs
    refine ⟨?_, by simp; omega⟩
    unfold seg
    simp
    rw [List.drop_eq_getElem_cons h1, h2]
    rfl
/-- Y: the text of a node is its stretch. -/
theorem fl_seg (h : Tile l text fr to [0]) : ∀ (d k : Nat), l.length - k ≤ d → k < l.length → fl l k = seg text (fr.getD k 0) (en l fr to k)
  | 0, k, hd, hk => by omega
  | d + 1, k, hd, hk => by
    have B := ce_bd h (l.length - k) k (Nat.le_refl _) hk
    have key : ∀ i, i ≤ l.length → txL l k ++ (kidsU l k i).flatMap (fl l) = seg text (fr.getD k 0 + (nmL l k).length) (ce l fr to k i) := by
      intro i
      induction i with
      | zero =>
        intro _
        show txL l k ++ [] = seg text (fr.getD k 0 + (nmL l k).length) (fr.getD k 0 + (nmL l k).length + (txL l k).length)
        rw [List.append_nil, (seg_head h hk).2]
      | succ i ih =>
        intro hi
        have ih := ih (by omega)
        unfold kidsU ce
        split
        · rename_i hc
          obtain ⟨u, h1, h2, h3⟩ := h.t1 i (by omega) (by omega)
          obtain rfl : u = k := by have := hc.2; omega
          have hi2 := fl_seg h d i (by omega) (by omega)
          have Bi := ce_bd h (l.length - i) i (Nat.le_refl _) (by omega) l.length (Nat.le_refl _)
          rw [List.flatMap_append, ← List.append_assoc, ih]
          simp only [List.flatMap_cons, List.flatMap_nil, List.append_nil]
          rw [hi2, to_en h (by omega) (by omega), h3]
          have := B i (by omega)
          exact seg_app text (by omega) (by unfold en; omega)
        · exact ih
    have hB := B l.length (Nat.le_refl _)
    rw [fl_eq, kids, key l.length (Nat.le_refl _)]
    have e : seg text (fr.getD k 0) (fr.getD k 0 + (nmL l k).length) ++ seg text (fr.getD k 0 + (nmL l k).length) (ce l fr to k l.length) ++ seg text (ce l fr to k l.length) (en l fr to k) = seg text (fr.getD k 0) (en l fr to k) := by
      rw [seg_app text (by omega) (by omega), seg_app text (by omega) (by unfold en; omega)]
    rw [(seg_head h hk).1, (seg_tail h hk).1] at e
    exact e
/-- The text of the whole is the text. -/
theorem fl_all (h : Tile l text fr to [0]) (hl : 0 < l.length) (hf : fr.getD 0 0 = 0) : fl l 0 = text := by
  rw [fl_seg h l.length 0 (by omega) hl, hf]
  have := h.inn 0 [] rfl
  unfold en slL
  rw [if_pos h.root, ← this]
  simp [seg]
end

/-- Where the first node begins. -/
theorem fr_zero {l : List Nd} {z y : LS} (h : addAll z0 l = some z) (hl : l ≠ []) (he : z.endInto 0 = some y) : y.fr.getD 0 0 = 0 := by
  have hk : ∀ (b : List Nd) (z y : LS), z.fr ≠ [] → addAll z b = some y → y.fr.getD 0 0 = z.fr.getD 0 0 ∧ y.fr ≠ [] := by
    intro b
    induction b with
    | nil => intro z y hz ha; simp [addAll] at ha; subst ha; exact ⟨rfl, hz⟩
    | cons n b ih =>
      intro z y hz ha
      unfold addAll at ha
      cases hn : addN z n with
      | none => rw [hn] at ha; simp at ha
      | some x =>
        rw [hn] at ha
        have hx : x.fr.getD 0 0 = z.fr.getD 0 0 ∧ x.fr ≠ [] := by
          unfold addN at hn
          have app : ∀ (f : List Nat) (v : Nat), f ≠ [] → (f ++ [v]).getD 0 0 = f.getD 0 0 ∧ f ++ [v] ≠ [] := fun f v hf => by cases f with | nil => exact absurd rfl hf | cons a f => exact ⟨rfl, by simp⟩
          split at hn
          · split at hn
            · rename_i h0; exact absurd (List.length_eq_zero_iff.1 h0) hz
            · cases hn
          · cases he : z.endInto n.up with
            | none => rw [he] at hn; simp at hn
            | some w =>
              rw [he] at hn
              simp only [Option.map_some, Option.some.injEq] at hn
              subst hn
              have hw := (endI_mem _ _ _ _ _ _ he).2.1
              show (w.fr ++ [_]).getD 0 0 = _ ∧ w.fr ++ [_] ≠ []
              rw [hw]; exact app _ _ hz
          · cases he : z.endInto n.up with
            | none => rw [he] at hn; simp at hn
            | some w =>
              rw [he] at hn
              simp only [Option.bind_some] at hn
              split at hn
              · cases hn
              · simp only [Option.some.injEq] at hn
                subst hn
                have hw := (endI_mem _ _ _ _ _ _ he).2.1
                show (w.fr ++ [_]).getD 0 0 = _ ∧ w.fr ++ [_] ≠ []
                rw [hw]; exact app _ _ hz
          · cases hn
        have := ih x y hx.2 ha
        exact ⟨this.1.trans hx.1, this.2⟩
  match l, hl, h with
  | n :: b, _, h =>
    unfold addAll at h
    cases hn : addN z0 n with
    | none => rw [hn] at h; simp at h
    | some x =>
      rw [hn] at h
      obtain ⟨_, _, h2⟩ := addN_first hn
      subst h2
      have := hk b _ z (by simp) h
      rw [(endI_mem _ _ _ _ _ _ he).2.1, this.1]; rfl
/-- Sums of numbers from m on. -/
def sF (g : Nat → Nat) (m : Nat) : Nat → Nat
  | 0 => 0
  | d + 1 => g m + sF g (m + 1) d
theorem sF_add (f g h : Nat → Nat) : ∀ (d m : Nat), (∀ i, m ≤ i → i < m + d → f i + g i = h i) → sF f m d + sF g m d = sF h m d
  | 0, _, _ => rfl
  | d + 1, m, hh => by
    have := sF_add f g h d (m + 1) (fun i h1 h2 => hh i (by omega) (by omega))
    have h0 := hh m (by omega) (by omega)
    simp only [sF]; omega
theorem sF_congr (f g : Nat → Nat) : ∀ (d m : Nat), (∀ i, m ≤ i → i < m + d → f i = g i) → sF f m d = sF g m d
  | 0, _, _ => rfl
  | d + 1, m, hh => by simp only [sF]; rw [hh m (by omega) (by omega), sF_congr f g d (m + 1) (fun i h1 h2 => hh i (by omega) (by omega))]
theorem sF_snoc (g : Nat → Nat) : ∀ (d m : Nat), sF g m (d + 1) = sF g m d + g (m + d)
  | 0, m => by simp [sF]
  | d + 1, m => by
    have := sF_snoc g d (m + 1)
    simp only [sF] at this ⊢
    rw [this, show m + 1 + d = m + (d + 1) by omega]; omega
theorem kids_sum (l : List Nd) (k : Nat) : ∀ d, ((kidsU l k (k + 1 + d)).flatMap (fl l)).length = sF (fun i => if (ndAt l i).up = (k : Int) then (fl l i).length else 0) (k + 1) d
  | 0 => by
    have : ∀ i, i ≤ k + 1 → kidsU l k i = [] := by
      intro i
      induction i with
      | zero => intro _; rfl
      | succ i ih => intro hi; unfold kidsU; rw [if_neg (by omega)]; exact ih (by omega)
    rw [this (k + 1 + 0) (by omega)]; rfl
  | d + 1 => by
    have ih := kids_sum l k d
    rw [sF_snoc, ← ih, show k + 1 + (d + 1) = k + 1 + d + 1 by omega]
    conv => lhs; unfold kidsU
    by_cases hc : (ndAt l (k + 1 + d)).up = (k : Int)
    · rw [if_pos ⟨by omega, hc⟩, if_pos hc]; simp
    · rw [if_neg (fun h => hc h.2), if_neg hc]; simp
/-- What a node has of its own. -/
def ownL (l : List Nd) (k : Nat) : Nat := (nmL l k).length + (txL l k).length + (slL l k).length
theorem fl_len (l : List Nd) (k : Nat) (hk : k < l.length) : (fl l k).length = ownL l k + sF (fun i => if (ndAt l i).up = (k : Int) then (fl l i).length else 0) (k + 1) (l.length - (k + 1)) := by
  rw [fl_eq]
  have := kids_sum l k (l.length - (k + 1))
  rw [show k + 1 + (l.length - (k + 1)) = l.length by omega] at this
  simp only [List.length_append, kids, this, ownL]; omega
theorem roots_sum (l : List Nd) (hup : ∀ i, i < l.length → (ndAt l i).up < (i : Int)) : ∀ (d m : Nat), m + d = l.length → sF (fun i => if (ndAt l i).up < (m : Int) then (fl l i).length else 0) m d = sF (ownL l) m d
  | 0, _, _ => rfl
  | d + 1, m, h => by
    have ih := roots_sum l hup d (m + 1) (by omega)
    simp only [sF]
    rw [if_pos (hup m (by omega)), fl_len l m (by omega), show l.length - (m + 1) = d by omega, ← ih]
    rw [Nat.add_assoc, sF_add _ _ (fun i => if (ndAt l i).up < ((m + 1 : Nat) : Int) then (fl l i).length else 0) d (m + 1)]
    intro i _ _
    by_cases h1 : (ndAt l i).up = (m : Int)
    · rw [if_pos h1, if_neg (by omega), if_pos (by omega)]; simp
    · rw [if_neg h1]
      by_cases h2 : (ndAt l i).up < (m : Int)
      · rw [if_pos h2, if_pos (by omega)]; simp
      · rw [if_neg h2, if_neg (by omega)]
theorem fl_le (l : List Nd) (hup : ∀ i, i < l.length → (ndAt l i).up < (i : Int)) (k : Nat) (hk : k < l.length) : (fl l k).length ≤ sF (ownL l) k (l.length - k) := by
  have := roots_sum l hup (l.length - k) k (by omega)
  rw [← this]
  obtain ⟨d, hd⟩ : ∃ d, l.length - k = d + 1 := ⟨l.length - k - 1, by omega⟩
  rw [hd]
  simp only [sF]
  rw [if_pos (hup k hk)]
  omega
end Go.Proofs.YtbmnciejaknonauDoor.Doc1
