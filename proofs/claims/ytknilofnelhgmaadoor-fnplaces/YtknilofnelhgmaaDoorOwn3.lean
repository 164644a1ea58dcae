/- The contracts of the functions over changes at rows of one's own, however long these are. -/
import Derived.Test.YtknilofnelhgmaaDoorBig1
import Derived.Test.YtknilofnelhgmaaDoorOpOnM
import Derived.Test.YtknilofnelhgmaaDoorInv1
namespace Go.Proofs.YtknilofnelhgmaaDoor
open Go.RowKit
open Doc1

theorem smP_sz {l : List Pt} (h : ∀ p ∈ l, smP p) : ∀ i (hi : i < l.length), l[i].put.size ≤ 1048576 ∧ l[i].drop.size ≤ 1048576 := fun i hi => by
  have := h _ (List.getElem_mem hi)
  exact ⟨by have := this.2.1; omega, by have := this.2.2; omega⟩
theorem no_big {l : List Pt} (h : ¬ l.length ≤ 1048576) : goodO l = false := goodO_no_len (by omega)
theorem gq_smP {l : List Pt} (h : goodO l = true) : ∀ p ∈ l, smP p := fun p hp => by
  have := pk_sizes (goodO_pk h p hp)
  exact ⟨⟨by omega, by omega⟩, this.2.1, this.2.2.1⟩
theorem invO_smP (l : List Pt) : ∀ p ∈ invO l, smP p := by
  by_cases h : goodO l = true
  · exact gq_smP (good_invO h).1
  · have e : invO l = [] := by unfold invO; rw [if_neg h]
    rw [e]; intro p hp; cases hp
theorem own_sl {w : World} {B : Nat} {v : Value} {l : List Pt} (h : POwn w B v l) : ∃ a cap, v = .slice a l.length cap := by
  obtain ⟨a, cap, e, -, -⟩ := own_shp h
  exact ⟨a, cap, e⟩

theorem applyI_own {w : World} {B : Nat} {v : Value} {l : List Pt} (s : ByteArray) (h : POwn w B v l) (hT : Tab w) (hm : ∀ p ∈ l, smP p) (hs : s.size ≤ 1048576) :
    Calls Tryd.prog 10 #[v, .string s] w fun e w' => e = .returned (.tuple #[.string (aplO l s).1, .bool (aplO l s).2]) ∧ Below w.heap.size w w' := by
  by_cases hl : l.length ≤ 1048576
  · obtain ⟨aw, g, cap, rfl, hp⟩ := own_pin h hT (smP_sz hm) hl
    exact applyI s hp hT hs
  · obtain ⟨a, cap, rfl⟩ := own_sl h
    have e : aplO l s = (⟨#[]⟩, false) := by unfold aplO; rw [no_big hl]; simp
    rw [e]
    exact applyI_big a l.length cap s (by omega)
theorem applyS_own {w : World} {B : Nat} {v : Value} {l : List Pt} (s : ByteArray) (h : POwn w B v l) (hT : Tab w) (hm : ∀ p ∈ l, smP p) (hs : s.size ≤ 1048576) :
    Calls Tryd.prog 11 #[v, .string s] w fun e w' => e = .returned (.tuple #[.string (aplO l s).1, .bool (aplO l s).2]) ∧ Below w.heap.size w w' := by
  by_cases hl : l.length ≤ 1048576
  · obtain ⟨aw, g, cap, rfl, hp⟩ := own_pin h hT (smP_sz hm) hl
    exact applyS s hp hs
  · obtain ⟨a, cap, rfl⟩ := own_sl h
    have e : aplO l s = (⟨#[]⟩, false) := by unfold aplO; rw [no_big hl]; simp
    rw [e]
    exact applyS_big a l.length cap s (by omega)
theorem invertI_own {w : World} {B : Nat} {v : Value} {l : List Pt} (h : POwn w B v l) (hT : Tab w) (hm : ∀ p ∈ l, smP p) :
    Calls Tryd.prog 12 #[v] w fun e w' => ∃ v, e = .returned (.tuple #[v, .bool (goodO l)]) ∧ POwn w' w.heap.size v (invO l) ∧ Below w.heap.size w w' := by
  by_cases hl : l.length ≤ 1048576
  · obtain ⟨aw, g, cap, rfl, hp⟩ := own_pin h hT (smP_sz hm) hl
    exact invertI hp hT
  · obtain ⟨a, cap, rfl⟩ := own_sl h
    have e : invO l = [] := by unfold invO; rw [no_big hl]; rfl
    rw [e, no_big hl]
    exact invertI_big a l.length cap (by omega)
theorem invertS_own {w : World} {B : Nat} {v : Value} {l : List Pt} (h : POwn w B v l) (hT : Tab w) (hm : ∀ p ∈ l, smP p) :
    Calls Tryd.prog 13 #[v] w fun e w' => ∃ v, e = .returned (.tuple #[v, .bool (goodO l)]) ∧ POwn w' w.heap.size v (invO l) ∧ Below w.heap.size w w' := by
  by_cases hl : l.length ≤ 1048576
  · obtain ⟨aw, g, cap, rfl, hp⟩ := own_pin h hT (smP_sz hm) hl
    exact invertS hp
  · obtain ⟨a, cap, rfl⟩ := own_sl h
    have e : invO l = [] := by unfold invO; rw [no_big hl]; rfl
    rw [e, no_big hl]
    exact invertS_big a l.length cap (by omega)
theorem normalI_own {w : World} {B : Nat} {v : Value} {l : List Pt} (h : POwn w B v l) (hT : Tab w) (hm : ∀ p ∈ l, smP p) :
    Calls Tryd.prog 15 #[v] w fun e w' => ∃ v, e = .returned (.tuple #[v, .bool (goodO l)]) ∧ POwn w' w.heap.size v (norO l) ∧ Below w.heap.size w w' := by
  by_cases hl : l.length ≤ 1048576
  · obtain ⟨aw, g, cap, rfl, hp⟩ := own_pin h hT (smP_sz hm) hl
    exact normalI hp hT
  · obtain ⟨a, cap, rfl⟩ := own_sl h
    have e : norO l = [] := by unfold norO; rw [no_big hl]; rfl
    rw [e, no_big hl]
    exact normalI_big a l.length cap (by omega)
theorem normalS_own {w : World} {B : Nat} {v : Value} {l : List Pt} (h : POwn w B v l) (hT : Tab w) (hm : ∀ p ∈ l, smP p) :
    Calls Tryd.prog 22 #[v] w fun e w' => ∃ v, e = .returned (.tuple #[v, .bool (goodO l)]) ∧ POwn w' w.heap.size v (norO l) ∧ Below w.heap.size w w' := by
  by_cases hl : l.length ≤ 1048576
  · obtain ⟨aw, g, cap, rfl, hp⟩ := own_pin h hT (smP_sz hm) hl
    exact normalS hp
  · obtain ⟨a, cap, rfl⟩ := own_sl h
    have e : norO l = [] := by unfold norO; rw [no_big hl]; rfl
    rw [e, no_big hl]
    exact normalS_big a l.length cap (by omega)
theorem sizesI_own {w : World} {B : Nat} {v : Value} {l : List Pt} (h : POwn w B v l) (hT : Tab w) (hm : ∀ p ∈ l, smP p) :
    Calls Tryd.prog 16 #[v] w fun e w' => e = .returned (.tuple #[.int .i64 (szT l), .int .i64 (szM l), .bool (goodO l)]) ∧ Below w.heap.size w w' := by
  by_cases hl : l.length ≤ 1048576
  · obtain ⟨aw, g, cap, rfl, hp⟩ := own_pin h hT (smP_sz hm) hl
    exact sizesI_any hp hT
  · obtain ⟨a, cap, rfl⟩ := own_sl h
    unfold szT szM
    rw [no_big hl]
    exact sizesI_big a l.length cap (by omega)
theorem sizesS_own {w : World} {B : Nat} {v : Value} {l : List Pt} (h : POwn w B v l) (hT : Tab w) (hm : ∀ p ∈ l, smP p) :
    Calls Tryd.prog 20 #[v] w fun e w' => e = .returned (.tuple #[.int .i64 (szT l), .int .i64 (szM l), .bool (goodO l)]) ∧ Below w.heap.size w w' := by
  by_cases hl : l.length ≤ 1048576
  · obtain ⟨aw, g, cap, rfl, hp⟩ := own_pin h hT (smP_sz hm) hl
    exact sizesS hp
  · obtain ⟨a, cap, rfl⟩ := own_sl h
    unfold szT szM
    rw [no_big hl]
    exact sizesS_big a l.length cap (by omega)
end Go.Proofs.YtknilofnelhgmaaDoor
