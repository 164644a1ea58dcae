/- The model's l11Replace and ReplaceOp. -/
import Derived.Test.YtfiefklhhchebabDoorRep2
set_option linter.unusedVariables false
namespace Go.Proofs.YtfiefklhhchebabDoor
open Go.RowKit
open Doc1

theorem fold_bd : ∀ (l : List Pt), (∀ p ∈ l, nth p ∨ pk p ≠ 0) → (l.foldl addP []).length ≤ l.length ∧ ∀ q ∈ l.foldl addP [], Bd (300 * l.length) q := by
  have key : ∀ (l a : List Pt) (m : Nat), (∀ p ∈ l, nth p ∨ pk p ≠ 0) → a.length ≤ m → (∀ q ∈ a, Bd (300 * m) q) → (l.foldl addP a).length ≤ m + l.length ∧ ∀ q ∈ l.foldl addP a, Bd (300 * (m + l.length)) q := by
    intro l
    induction l with
    | nil => intro a m _ h1 h2; exact ⟨h1, h2⟩
    | cons p l ih =>
      intro a m hl h1 h2
      have := ih (addP a p) (m + 1) (fun q hq => hl q (by simp [hq])) (Nat.le_trans (addP_len a p) (by omega)) (fun q hq => (bd_add h2 (hl p (by simp)) q hq).mono (by omega))
      rw [List.foldl_cons, List.length_cons, show m + (l.length + 1) = m + 1 + l.length by omega]
      exact this
  intro l hl
  have := key l [] 0 hl (Nat.le_refl _) (fun q hq => by cases hq)
  rw [Nat.zero_add] at this
  exact this
theorem pk_keep {n : Nat} (h : n ≤ 300) : nth ⟨(n : Int), e0, e0⟩ ∨ pk ⟨(n : Int), e0, e0⟩ ≠ 0 := by
  by_cases h0 : n = 0
  · left; subst h0; exact ⟨rfl, rfl, rfl⟩
  · right
    unfold pk
    rw [if_pos ⟨rfl, rfl, by show (1 : Int) ≤ n; omega, by show (n : Int) ≤ 300; omega⟩]
    decide
theorem pk_put {b : ByteArray} (h : good b.data.toList = true) : nth ⟨0, b, e0⟩ ∨ pk ⟨0, b, e0⟩ ≠ 0 := by
  by_cases h0 : b.data.toList = []
  · left; exact ⟨rfl, h0, rfl⟩
  · right
    unfold pk
    rw [if_neg (fun c => h0 c.1), if_pos ⟨rfl, rfl, h0, h⟩]
    decide
theorem pk_drp {b : ByteArray} (h : good b.data.toList = true) : nth ⟨0, e0, b⟩ ∨ pk ⟨0, e0, b⟩ ≠ 0 := by
  by_cases h0 : b.data.toList = []
  · left; exact ⟨rfl, rfl, h0⟩
  · right
    unfold pk
    rw [if_neg (fun c => h0 c.2.1), if_neg (fun c => h0 c.2.1), if_pos ⟨rfl, rfl, h0, h⟩]
    decide
theorem gA_ok {p s W : ByteArray} (h0 : 0 < p.size) (hp : good p.data.toList = true) (hs : s.size ≤ 300) (hW : good W.data.toList = true) : ∀ k, (∀ q ∈ (gA s ((sps p s W).take k)).1, nth q ∨ pk q ≠ 0) ∧ (gA s ((sps p s W).take k)).1.length ≤ 3 * k ∧ (gA s ((sps p s W).take k)).2 ≤ s.size
  | 0 => ⟨fun q hq => (by simp [gA] at hq), (by simp [gA]), (by simp [gA])⟩
  | k + 1 => by
    have ih := gA_ok h0 hp hs hW k
    by_cases hk : k < (sps p s W).length
    · rw [List.take_succ_eq_append_getElem hk, gA_snoc]
      have hx : ∃ x ∈ plc p s, (sps p s W)[k] = spl p.size W x := by
        unfold sps at hk ⊢
        rw [List.length_map] at hk
        exact ⟨(plc p s)[k], List.getElem_mem hk, by rw [List.getElem_map]⟩
      obtain ⟨x, hxm, hxe⟩ := hx
      rw [hxe]
      obtain ⟨h1, h2⟩ := plc_is h0 hxm
      refine ⟨fun q hq => ?_, ?_, ?_⟩
      · unfold gS spl at hq
        rcases List.mem_append.1 hq with c | c
        · exact ih.1 q c
        · simp only [List.mem_cons, List.not_mem_nil, or_false] at c
          rcases c with rfl | rfl | rfl
          · exact pk_keep (by omega)
          · exact pk_put hW
          · show nth ⟨0, e0, s.extract x (x + p.size)⟩ ∨ _
            rw [h2]
            exact pk_drp hp
      · unfold gS; rw [List.length_append]; have := ih.2.1; simp only [List.length_cons, List.length_nil]; omega
      · exact h1
    · rw [List.take_of_length_le (by omega)]
      rw [List.take_of_length_le (by omega)] at ih
      exact ⟨ih.1, by have := ih.2.1; omega, ih.2.2⟩
theorem sps_at {p s W : ByteArray} {k : Nat} (h0 : 0 < p.size) (hk : k < (plc p s).length) : gA s ((sps p s W).take (k + 1)) = ((gA s ((sps p s W).take k)).1 ++ [⟨(((plc p s)[k] - (gA s ((sps p s W).take k)).2 : Nat) : Int), e0, e0⟩, ⟨0, W, e0⟩, ⟨0, e0, p⟩], (plc p s)[k] + p.size) ∧ (gA s ((sps p s W).take k)).2 ≤ (plc p s)[k] := by
  have hk2 : k < (sps p s W).length := by unfold sps; rw [List.length_map]; exact hk
  have he : (sps p s W)[k] = spl p.size W (plc p s)[k] := List.getElem_map _
  have h2 := (plc_is h0 (List.getElem_mem hk)).2
  refine ⟨?_, ?_⟩
  · rw [List.take_succ_eq_append_getElem hk2, gA_snoc, he]
    unfold gS spl
    simp only [h2]
  · have := (asc_take (sps_asc (s := s) W h0) k hk2).2.1
    rw [he] at this
    exact this
/-- The parts that are told where with is p: all are kept. -/
theorem keep_more {a b : Nat} (h : a + b ≤ 300) : addP (keepL (a : Int)) ⟨(b : Int), e0, e0⟩ = keepL ((a + b : Nat) : Int) := by
  by_cases hb : b = 0
  · subst hb
    rw [show addP (keepL (a : Int)) ⟨((0 : Nat) : Int), e0, e0⟩ = keepL (a : Int) from if_pos ⟨rfl, rfl, rfl⟩]
    rfl
  · have e1 : keepL ((a + b : Nat) : Int) = [⟨((a + b : Nat) : Int), e0, e0⟩] := by unfold keepL; rw [if_pos ⟨by omega, by omega⟩]; rfl
    rw [e1]
    by_cases ha : a = 0
    · subst ha
      have e2 : keepL ((0 : Nat) : Int) = [] := by unfold keepL; rw [if_neg (by omega)]
      rw [e2]
      unfold addP
      rw [if_neg (fun c => by have := c.1; simp at this; omega)]
      simp
    · have e2 : keepL (a : Int) = [⟨(a : Int), e0, e0⟩] := by unfold keepL; rw [if_pos ⟨by omega, by omega⟩]; rfl
      rw [e2]
      unfold addP
      rw [if_neg (fun c => by have := c.1; simp at this; omega)]
      simp only [List.getLast?_singleton]
      rw [if_pos ⟨by show (0 : Int) < b; omega, by show (0 : Int) < a; omega⟩]
      simp

/-- What l11Replace tells. -/
def repL (p s W : ByteArray) : List Pt := if W = p then keepL (s.size : Int) else (rawG s (sps p s W)).foldl addP []
/-- What is known in its rounds. -/
def accL (p s W : ByteArray) (k : Nat) : List Pt := if W = p then keepL ((gA s ((sps p s W).take k)).2 : Int) else (gA s ((sps p s W).take k)).1.foldl addP []
theorem accL_ok {p s W : ByteArray} (h0 : 0 < p.size) (hp : good p.data.toList = true) (hs : s.size ≤ 300) (hW : good W.data.toList = true) {k : Nat} (hk : k ≤ 300) : (accL p s W k).length ≤ 900 ∧ ∀ q ∈ accL p s W k, Bd 300000 q := by
  have h := gA_ok h0 hp hs hW k
  unfold accL
  split
  · refine ⟨Nat.le_trans (keepL_len _) (by omega), fun q hq => ?_⟩
    unfold keepL at hq
    split at hq
    · rw [List.mem_singleton] at hq
      subst hq
      exact ⟨by show ((gA s ((sps p s W).take k)).2 : Int) ≤ ((300000 : Nat) : Int); omega, by show (0 : Nat) ≤ _; omega, by show (0 : Nat) ≤ _; omega⟩
    · cases hq
  · have := fold_bd _ h.1
    exact ⟨by omega, fun q hq => (this.2 q hq).mono (by omega)⟩
theorem bd_more {l : List Pt} {M : Nat} {p : Pt} (h : l.length ≤ 990 ∧ ∀ q ∈ l, Bd M q) (hp : nth p ∨ pk p ≠ 0) : (addP l p).length ≤ l.length + 1 ∧ ∀ q ∈ addP l p, Bd (M + 300) q := ⟨addP_len _ _, bd_add h.2 hp⟩
end Go.Proofs.YtfiefklhhchebabDoor
