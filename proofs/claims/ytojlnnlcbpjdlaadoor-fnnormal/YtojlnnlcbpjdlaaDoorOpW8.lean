/- The contract of impl.InvertOp. -/
import Derived.Test.YtojlnnlcbpjdlaaDoorOpW7
import Derived.Test.YtojlnnlcbpjdlaaDoorOpSM
namespace Go.Proofs.YtojlnnlcbpjdlaaDoor
open Go.RowKit Go.Shelf
open Doc1

attribute [local go_sem] Oper.semAt_some

/-- What is put is dropped, and what is dropped is put. -/
def flip (x : St) : St := if x.k = 2 then ⟨3, x.c⟩ else if x.k = 3 then ⟨2, x.c⟩ else x
theorem stp_inv {p : Pt} (h : pk p ≠ 0) : stp (invP p) = (stp p).map flip := by
  have key : p.put.data.toList = [] ∨ p.drop.data.toList = [] := by
    unfold pk at h
    split at h
    · rename_i hh; exact .inl hh.1
    · split at h
      · rename_i hh; exact .inr hh.2.1
      · split at h
        · rename_i hh; exact .inl hh.2.1
        · exact absurd rfl h
  unfold stp invP
  simp only [List.map_append, List.map_replicate, List.map_map]
  rcases key with e | e
  · rw [e]; simp [flip, Function.comp_def]
  · rw [e]; simp [flip, Function.comp_def]
theorem stL_inv : ∀ (l : List Pt), (∀ p ∈ l, pk p ≠ 0) → stL (l.map invP) = (stL l).map flip
  | [], _ => rfl
  | p :: l, h => by
    have e1 : stL ((p :: l).map invP) = stp (invP p) ++ stL (l.map invP) := by simp [stL]
    have e2 : stL (p :: l) = stp p ++ stL l := by simp [stL]
    rw [e1, e2, List.map_append, stp_inv (h p (List.mem_cons_self)), stL_inv l (fun x hx => h x (List.mem_cons_of_mem _ hx))]
theorem sums_inv (l : List Pt) : tkL (l.map invP) = mkL l ∧ mkL (l.map invP) = tkL l := by
  unfold tkL mkL
  simp only [List.map_map]
  exact ⟨rfl, rfl⟩
theorem goodO_inv {l : List Pt} (h : goodO l = true) : goodO (l.map invP) = true := by
  have hp := inv_pk (goodO_pk h)
  obtain ⟨h1, h2, h3⟩ := goodO_le h
  have hs := sums_inv l
  rw [goodO_sums (by simpa using h1) (all_gp hp), hs.1, hs.2]
  exact decide_eq_true ⟨h3, h2⟩
theorem invG {l : List Pt} (h : goodO l = true) : goodO (gath g0 ((stL l).map flip)).out = true ∧ (gath g0 ((stL l).map flip)).out = normL (l.map invP) := by
  have := normG (goodO_inv h)
  rw [List.map_id, stL_inv l (goodO_pk h)] at this
  exact this

end Go.Proofs.YtojlnnlcbpjdlaaDoor
