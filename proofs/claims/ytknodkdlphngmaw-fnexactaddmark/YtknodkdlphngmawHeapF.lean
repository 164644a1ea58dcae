/- The stretches in which a mark is open, told end by end. -/
import Derived.Test.YtknodkdlphngmawHeapE
namespace Go.Proofs.Ytknodkdlphngmaw.Doc1

def opnE (out : List Mk) (o : Int) (e : En) : List Mk := if o = 0 then out ++ [⟨e.at', 0, e.st⟩] else out
def setTo (out : List Mk) (t : Int) : List Mk := match out.getLast? with
  | none => out
  | some m => out.set (out.length - 1) ⟨m.frm, t, m.style⟩
def stE (s : List Mk × Int) (e : En) : List Mk × Int := if s.2 + e.op = 0 then (setTo (opnE s.1 s.2 e) e.at', s.2 + e.op) else (opnE s.1 s.2 e, s.2 + e.op)
def mkF (S : List En) : List Mk × Int := S.foldl stE ([], 0)
theorem mkF_snoc (S : List En) (e : En) : mkF (S ++ [e]) = stE (mkF S) e := by simp [mkF]
theorem setTo_len (out : List Mk) (t : Int) : (setTo out t).length = out.length := by unfold setTo; split <;> simp
theorem opnE_len (out : List Mk) (o : Int) (e : En) : (opnE out o e).length ≤ out.length + 1 := by unfold opnE; split <;> simp
theorem stE_len (s : List Mk × Int) (e : En) : (stE s e).1.length ≤ s.1.length + 1 := by
  unfold stE; split
  · show (setTo _ _).length ≤ _; rw [setTo_len]; exact opnE_len _ _ _
  · exact opnE_len _ _ _
theorem stE_ne (s : List Mk × Int) (e : En) (h : s.2 ≠ 0 → s.1 ≠ []) : (stE s e).1 ≠ [] := by
  have h1 : opnE s.1 s.2 e ≠ [] := by
    unfold opnE
    split
    · simp
    · rename_i c; exact h c
  unfold stE; split
  · show setTo _ _ ≠ []
    intro c
    have := congrArg List.length c
    rw [setTo_len] at this
    exact h1 (List.length_eq_zero_iff.1 this)
  · exact h1
/-- So many ends: as many marks at most, and the count of open ones no greater. -/
theorem mkF_bd (S : List En) (h : ∀ e ∈ S, e.op = 1 ∨ e.op = -1) : (mkF S).1.length ≤ S.length ∧ -(S.length : Int) ≤ (mkF S).2 ∧ (mkF S).2 ≤ S.length ∧ ((mkF S).2 ≠ 0 → (mkF S).1 ≠ []) := by
  generalize hn : S.length = n
  induction n generalizing S with
  | zero =>
    have : S = [] := List.length_eq_zero_iff.1 hn
    subst this
    simp [mkF]
  | succ n ih =>
    obtain ⟨S', e, rfl⟩ : ∃ S' e, S = S' ++ [e] := ⟨S.dropLast, S.getLast (by intro c; rw [c] at hn; cases hn), (List.dropLast_concat_getLast _).symm⟩
    have hl : S'.length = n := by simpa using hn
    obtain ⟨a, b, c, d⟩ := ih S' (fun x hx => h x (by simp [hx])) hl
    have he := h e (by simp)
    rw [mkF_snoc]
    have e2 : (stE (mkF S') e).2 = (mkF S').2 + e.op := by unfold stE; split <;> rfl
    refine ⟨?_, ?_, ?_, fun _ => stE_ne _ _ d⟩
    · have := stE_len (mkF S') e; omega
    · rw [e2]; omega
    · rw [e2]; omega
end Go.Proofs.Ytknodkdlphngmaw.Doc1
