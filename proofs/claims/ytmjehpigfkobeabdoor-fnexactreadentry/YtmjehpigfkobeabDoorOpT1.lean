/- A change as a text: the model's l18Op and OpText, and the program's partText. -/
import Derived.Test.YtmjehpigfkobeabDoorNumS
import Derived.Test.YtmjehpigfkobeabDoorOpSA
import Derived.Test.YtmjehpigfkobeabDoorShelf
import Derived.Test.YtmjehpigfkobeabDoorAppB
import Derived.Test.YtmjehpigfkobeabDoorIntsQ
set_option linter.unusedVariables false
namespace Go.Proofs.YtmjehpigfkobeabDoor
open Go.RowKit Go.Shelf
open Doc1

attribute [local go_sem] Oper.semAt_some

def lB (l : List UInt8) : ByteArray := ⟨l.toArray⟩
theorem lB_list (l : List UInt8) : (lB l).data.toList = l := rfl
theorem lB_size (l : List UInt8) : (lB l).size = l.length := by rw [szB, lB_list]
theorem lB_of (s : ByteArray) : lB s.data.toList = s := rfl
theorem lB_app (a b : List UInt8) : lB (a ++ b) = lB a ++ lB b := ByteArray.ext (Array.ext' (by rw [apdB]; rfl))
def opB (l : List Pt) : ByteArray := lB (opT l)
def prB (p : Pt) : ByteArray := lB (prt p)
theorem bsz0 {b : ByteArray} (h : b.size = 0) : b.toList.isEmpty = true := by
  rw [ByteArray.toList_eq, List.isEmpty_iff]
  exact List.eq_nil_of_length_eq_zero (by rw [← szB]; exact h)
theorem bszn {b : ByteArray} (h : ¬ b.size = 0) : b.toList.isEmpty = false := by
  rw [ByteArray.toList_eq, List.isEmpty_eq_false_iff]
  intro c
  exact h (by rw [szB, c]; rfl)
theorem dig_len3 {n : Nat} (h : n ≤ 300) : (dig n).length ≤ 301 := Nat.le_trans (dig_few n) (by omega)
theorem pk_cases {p : Pt} (h : pk p ≠ 0) : (pk p = 1 ∧ p.put.data.toList = [] ∧ p.drop.data.toList = [] ∧ 1 ≤ p.keep ∧ p.keep ≤ 300) ∨ (pk p = 2 ∧ p.keep = 0 ∧ p.drop.data.toList = [] ∧ p.put.data.toList ≠ [] ∧ good p.put.data.toList = true) ∨ (pk p = 3 ∧ p.keep = 0 ∧ p.put.data.toList = [] ∧ p.drop.data.toList ≠ [] ∧ good p.drop.data.toList = true) := by
  unfold pk at h ⊢
  split
  · rename_i c; exact .inl ⟨rfl, c⟩
  · rename_i c0
    rw [if_neg c0] at h
    split
    · rename_i c; exact .inr (.inl ⟨rfl, c⟩)
    · rename_i c1
      rw [if_neg c1] at h
      split
      · rename_i c; exact .inr (.inr ⟨rfl, c⟩)
      · rename_i c2
        rw [if_neg c2] at h
        exact absurd rfl h
theorem prt_len {p : Pt} (h : pk p ≠ 0) : (prt p).length ≤ 302 := by
  unfold prt
  rcases pk_cases h with c | c | c
  · rw [if_pos (by omega)]
    have := dig_len3 (n := p.keep.toNat) (by omega)
    simp only [List.length_cons]; omega
  · rw [if_neg (by omega), if_pos c.2.2.2.1]
    have := good_len c.2.2.2.2
    simp only [List.length_cons]; omega
  · rw [if_neg (by omega), if_neg (by simpa using c.2.2.1)]
    have := good_len c.2.2.2.2
    simp only [List.length_cons]; omega
theorem opT_len : ∀ (l : List Pt), (∀ p ∈ l, pk p ≠ 0) → (opT l).length ≤ 303 * l.length
  | [], _ => Nat.le_refl _
  | p :: l, h => by
    have h1 := prt_len (h p (by simp))
    have h2 := opT_len l (fun q hq => h q (by simp [hq]))
    show (prt p ++ (59 :: opT l)).length ≤ _
    rw [List.length_append, List.length_cons, List.length_cons]
    omega
theorem opB_snoc (l : List Pt) (p : Pt) : opB (l ++ [p]) = opB l ++ prB p ++ (⟨#[59]⟩ : ByteArray) := by
  unfold opB prB
  rw [opT_snoc, lB_app, lB_app]
  exact ByteArray.ext (Array.ext' (by simp only [apdB, List.append_assoc]; rfl))
theorem prB_1 {p : Pt} (h : 0 < p.keep) : prB p = (⟨#[61]⟩ : ByteArray) ++ baD p.keep.toNat := by
  unfold prB prt; rw [if_pos h]; exact ByteArray.ext (Array.ext' (by rw [apdB]; rfl))
theorem prB_2 {p : Pt} (h : ¬ 0 < p.keep) (h2 : p.put.data.toList ≠ []) : prB p = (⟨#[43]⟩ : ByteArray) ++ p.put := by
  unfold prB prt; rw [if_neg h, if_pos h2]; exact ByteArray.ext (Array.ext' (by rw [apdB]; rfl))
theorem prB_3 {p : Pt} (h : ¬ 0 < p.keep) (h2 : ¬ p.put.data.toList ≠ []) : prB p = (⟨#[45]⟩ : ByteArray) ++ p.drop := by
  unfold prB prt; rw [if_neg h, if_neg h2]; exact ByteArray.ext (Array.ext' (by rw [apdB]; rfl))

set_option maxRecDepth 100000 in
set_option maxHeartbeats 4000000 in
theorem l18Op_any {w : World} {aw : Option Addr} {g cap : Nat} {l : List Pt} (h : Pin w aw g cap l) (h60 : l.length ≤ 60) (hgp : ∀ p ∈ l, pk p ≠ 0) :
    Calls Tryd.prog 88 #[.slice aw l.length cap] w fun e w' => e = .returned (.string (opB l)) ∧ Below w.heap.size w w' := by
  have hcp := h.cap
  have H := hide h
  have HG := hide hgp
  clear h hgp
  go_enter Tryd.func88, Tryd.ntmps88
  go_wp2
  go_loopw [3, 8] (fun a i wr => ∃ k : Nat, k ≤ l.length ∧ i = .int .i64 k ∧ a = .string (opB (l.take k)) ∧ Below w.heap.size w wr) (fun _ i _ => l.length - (intOf i).toNat)
  case atStart => exact ⟨0, by omega, rfl, rfl, Below.refl _ _⟩
  case round =>
    obtain ⟨k, hk, rfl, rfl, hbel⟩ := hrel
    by_cases hlt : k < l.length
    · obtain rfl := H.out.adr hlt
      obtain ⟨c0, c1, c2⟩ := (H.out.later hbel).at'.ptat k hlt
      have hp := HG.out l[k] (List.getElem_mem hlt)
      have b2 := opT_len (l.take k) (fun p hp => HG.out p (List.mem_of_mem_take hp))
      have hl1 : (l.take k).length ≤ 60 := by rw [List.length_take]; omega
      have bs : (opB (l.take k)).size ≤ 20000 := by unfold opB; rw [lB_size]; omega
      have hs := hide (opB_snoc (l.take k) l[k])
      rw [(List.take_succ_eq_append_getElem hlt).symm] at hs
      have hsz := H.out.sz k hlt
      generalize opB (l.take k) = A at *
      rcases pk_cases hp with c | c | c
      · have hk0 : 0 < l[k].keep := by omega
        have e1 := hide (prB_1 hk0)
        have hD : (baD l[k].keep.toNat).size ≤ 301 := by have := baD_size l[k].keep.toNat; omega
        have NU := fun w' => numS_any l[k].keep.toNat w' (by omega)
        rw [Int.toNat_of_nonneg (by omega)] at NU
        generalize baD l[k].keep.toNat = D at *
        replace NU := hide NU
        obtain ⟨-, -, -, d1, d2⟩ := c
        go_wp2_with fail
        refine (NU.out _).mono ?_
        rintro e w2 ⟨rfl, hb2⟩
        have hbel2 := (hbel.alloc hbel.size _).trans (hb2.mono (by simp; have := hbel.size; omega))
        go_wp2
        refine ⟨⟨k + 1, by omega, by go_num, by rw [hs.out, e1.out], hbel2⟩, by simp [intOf]; omega⟩
      · have hk0 : ¬ 0 < l[k].keep := by omega
        have e1 := hide (prB_2 hk0 c.2.2.2.1)
        have hne : l[k].put.toList.isEmpty = false := bszn (fun e => c.2.2.2.1 (List.eq_nil_of_length_eq_zero (by rw [← szB]; exact e)))
        rw [c.2.1] at c0
        clear c
        go_wp2
        refine ⟨⟨k + 1, by omega, by go_num, by rw [hs.out, e1.out], hbel.alloc hbel.size _⟩, by simp [intOf]; omega⟩
      · have hk0 : ¬ 0 < l[k].keep := by omega
        have e1 := hide (prB_3 hk0 (by simpa using c.2.2.1))
        have hne : l[k].put = ⟨#[]⟩ := ByteArray.ext (Array.ext' c.2.2.1)
        rw [c.2.1] at c0
        rw [hne] at c1
        clear c
        go_wp2
        refine ⟨⟨k + 1, by omega, by go_num, by rw [hs.out, e1.out], hbel.alloc hbel.size _⟩, by simp [intOf]; omega⟩
    · obtain rfl : k = l.length := by omega
      rw [List.take_length]
      go_wp2
      go_ret
      exact ⟨rfl, hbel⟩

end Go.Proofs.YtmjehpigfkobeabDoor
