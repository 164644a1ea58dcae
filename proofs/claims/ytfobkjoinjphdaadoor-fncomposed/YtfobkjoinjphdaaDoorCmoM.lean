/- Changes put together: it does not matter which two are put together first. Changes put together do what one behind the other does. Two changes one behind the other, put together: the composed change does what both do, and thrice is the same either way. ComposeOps over rows of one's own, of any length. -/
import Derived.Test.YtfobkjoinjphdaaDoorCompM
import Derived.Test.YtfobkjoinjphdaaDoorInv1
import Derived.Test.YtfobkjoinjphdaaDoorComp4
import Derived.Test.YtfobkjoinjphdaaDoorCmpWM
import Derived.Test.YtfobkjoinjphdaaDoorCmpN
import Derived.Test.YtfobkjoinjphdaaDoorOwnM
namespace Go.Proofs.YtfobkjoinjphdaaDoor.Doc1

theorem asc_map {o p : Option (List St)} {x : St} {f g h k : List St → Option (List St)} (ih : o.bind f = p.bind g) (hf : ∀ r, h (x :: r) = (f r).map (x :: ·)) (hg : ∀ r, k r = (g r).map (x :: ·)) : (o.map (x :: ·)).bind h = p.bind k := by
  have e1 : (o.map (x :: ·)).bind h = (o.bind f).map (x :: ·) := by cases o <;> simp [hf]
  have e2 : p.bind k = (p.bind g).map (x :: ·) := by cases p <;> simp [hg]
  rw [e1, e2, ih]
theorem bind_none (o : Option (List St)) : (o.bind fun _ => (none : Option (List St))) = none := by cases o <;> rfl

theorem cmp_assoc : ∀ (N : Nat) (a b c : List St), a.length + b.length + c.length ≤ N → (∀ x ∈ a, sk x) → (∀ x ∈ b, sk x) → (∀ x ∈ c, sk x) → (cmpS a b).bind (fun t => cmpS t c) = (cmpS b c).bind (fun y => cmpS a y) := by
  intro N
  induction N with
  | zero =>
    intro a b c h _ _ _
    obtain rfl := List.eq_nil_of_length_eq_zero (show a.length = 0 by omega)
    obtain rfl := List.eq_nil_of_length_eq_zero (show b.length = 0 by omega)
    obtain rfl := List.eq_nil_of_length_eq_zero (show c.length = 0 by omega)
    rw [cmpS_nil]; rfl
  | succ N IH =>
    intro a b c h ha hb hc
    have tl : ∀ {x : St} {r : List St}, (∀ y ∈ x :: r, sk y) → ∀ y ∈ r, sk y := fun h y hy => h y (List.mem_cons_of_mem _ hy)
    by_cases hd : ∃ x a', a = x :: a' ∧ x.k = 3
    · obtain ⟨x, a', rfl, hx⟩ := hd
      have ih := IH a' b c (by simp at h; omega) (tl ha) hb hc
      rw [cmpS_drop hx]
      exact asc_map ih (fun r => cmpS_drop hx r c) (fun r => cmpS_drop hx a' r)
    · have nD : noD a := fun z r hz hk => hd ⟨z, r, hz, hk⟩
      cases b with
      | nil =>
        cases a with
        | nil =>
          cases c with
          | nil => rw [cmpS_nil]; rfl
          | cons z c' =>
            rw [cmpS_nil]
            show cmpS [] (z :: c') = _
            rw [cmpS_y]
            by_cases hz : z.k = 2
            · rw [if_pos hz]
              have ih := IH [] [] c' (by simp at h ⊢; omega) ha hb (tl hc)
              rw [cmpS_nil] at ih
              have ih' : cmpS [] c' = (cmpS [] c').bind (fun y => cmpS [] y) := ih
              cases hq : cmpS [] c' with
              | none => rfl
              | some y =>
                rw [hq] at ih'
                have e : cmpS [] y = some y := ih'.symm
                show some (z :: y) = cmpS [] (z :: y)
                rw [cmpS_y, if_pos hz, e]; rfl
            · rw [if_neg hz]; rfl
        | cons x a' =>
          have hx : x.k ≠ 3 := nD x a' rfl
          rw [cmpS_x, if_neg hx]
          cases c with
          | nil => rw [cmpS_nil]; show none = cmpS (x :: a') []; rw [cmpS_x, if_neg hx]
          | cons z c' =>
            by_cases hz : z.k = 2
            · have ih := IH (x :: a') [] c' (by simp at h ⊢; omega) ha hb (tl hc)
              rw [cmpS_x, if_neg hx] at ih
              rw [cmpS_y, if_pos hz]
              cases hq : cmpS [] c' with
              | none => rfl
              | some y =>
                rw [hq] at ih
                have e : cmpS (x :: a') y = none := ih.symm
                show none = cmpS (x :: a') (z :: y)
                rw [cmpS_xy, if_neg hx, if_pos hz, e]; rfl
            · rw [cmpS_y, if_neg hz]; rfl
      | cons y b' =>
        by_cases hy3 : y.k = 3
        · -- what the second drops
          rw [cmpS_drop hy3 b' c]
          cases a with
          | nil =>
            rw [cmpS_y, if_neg (by omega)]
            show none = _
            cases hq : cmpS b' c with
            | none => rfl
            | some r => show none = cmpS [] (y :: r); rw [cmpS_y, if_neg (by omega)]
          | cons x a' =>
            have hx : x.k ≠ 3 := nD x a' rfl
            have ih := IH a' b' c (by simp at h; omega) (tl ha) (tl hb) hc
            rw [cmpS_xy, if_neg hx, if_neg (by omega)]
            by_cases hx1 : x.k = 1
            · rw [if_pos hx1]
              have e : ((cmpS b' c).map (y :: ·)).bind (fun r => cmpS (x :: a') r) = (cmpS b' c).bind (fun r => (cmpS a' r).map (y :: ·)) := by
                cases cmpS b' c with
                | none => rfl
                | some r => show cmpS (x :: a') (y :: r) = _; rw [cmpS_xy, if_neg hx, if_neg (by omega), if_pos hx1]; rfl
              rw [e]
              exact asc_map ih (fun r => cmpS_drop hy3 r c) (fun r => rfl)
            · rw [if_neg hx1, if_neg (by omega)]
              have e : ((cmpS b' c).map (y :: ·)).bind (fun r => cmpS (x :: a') r) = if x.c = y.c then (cmpS b' c).bind (fun r => cmpS a' r) else none := by
                cases cmpS b' c with
                | none => split <;> rfl
                | some r =>
                  show cmpS (x :: a') (y :: r) = _
                  rw [cmpS_xy, if_neg hx, if_neg (by omega), if_neg hx1, if_neg (by omega)]; rfl
              rw [e]
              by_cases hcc : x.c = y.c
              · rw [if_pos hcc, if_pos hcc]; exact ih
              · rw [if_neg hcc, if_neg hcc]; rfl
        · by_cases hz : ∃ z c', c = z :: c' ∧ z.k = 2
          · -- what the third puts
            obtain ⟨z, c', rfl, hz⟩ := hz
            have ih := IH a (y :: b') c' (by simp at h ⊢; omega) ha hb (tl hc)
            rw [cmpS_xy, if_neg hy3, if_pos hz]
            have e : ((cmpS (y :: b') c').map (z :: ·)).bind (fun r => cmpS a r) = ((cmpS (y :: b') c').bind (fun r => cmpS a r)).map (z :: ·) := by
              cases cmpS (y :: b') c' with
              | none => rfl
              | some r =>
                show cmpS a (z :: r) = _
                cases a with
                | nil => rw [cmpS_y, if_pos hz]; rfl
                | cons x a' => rw [cmpS_xy, if_neg (nD x a' rfl), if_pos hz]; rfl
            rw [e, ← ih]
            cases ht : cmpS a (y :: b') with
            | none => rfl
            | some t =>
              have nt : noD t := by
                cases a with
                | nil =>
                  rw [cmpS_y] at ht
                  split at ht
                  · cases hq : cmpS [] b' with
                    | none => rw [hq] at ht; cases ht
                    | some r => rw [hq] at ht; cases ht; intro z' r' e'; cases e'; omega
                  · cases ht
                | cons x a' =>
                  have hx : x.k ≠ 3 := nD x a' rfl
                  rw [cmpS_xy, if_neg hx] at ht
                  split at ht
                  · cases hq : cmpS (x :: a') b' with
                    | none => rw [hq] at ht; cases ht
                    | some r => rw [hq] at ht; cases ht; intro z' r' e'; cases e'; omega
                  · split at ht
                    · cases hq : cmpS a' b' with
                      | none => rw [hq] at ht; cases ht
                      | some r => rw [hq] at ht; cases ht; intro z' r' e'; cases e'; exact hy3
                    · split at ht
                      · cases hq : cmpS a' b' with
                        | none => rw [hq] at ht; cases ht
                        | some r => rw [hq] at ht; cases ht; intro z' r' e'; cases e'; exact hx
                      · have := hb y List.mem_cons_self; rcases this with q | q | q <;> omega
              show cmpS t (z :: c') = (cmpS t c').map (z :: ·)
              cases t with
              | nil => rw [cmpS_y, if_pos hz]
              | cons u t' => rw [cmpS_xy, if_neg (nt u t' rfl), if_pos hz]
          · have nz : ∀ z c', c = z :: c' → z.k ≠ 2 := fun z c' e hk => hz ⟨z, c', e, hk⟩
            by_cases hy2 : y.k = 2
            · -- what the second puts
              have el : cmpS a (y :: b') = (cmpS a b').map (y :: ·) := by
                cases a with
                | nil => rw [cmpS_y, if_pos hy2]
                | cons x a' => rw [cmpS_xy, if_neg (nD x a' rfl), if_pos hy2]
              rw [el]
              cases c with
              | nil =>
                rw [cmpS_x, if_neg hy3]
                cases cmpS a b' with
                | none => rfl
                | some t => show cmpS (y :: t) [] = none; rw [cmpS_x, if_neg hy3]
              | cons z c' =>
                have hz2 : z.k ≠ 2 := nz z c' rfl
                have ih := IH a b' c' (by simp at h; omega) ha (tl hb) (tl hc)
                have es : ∀ t, cmpS (y :: t) (z :: c') = if z.k = 1 then (cmpS t c').map (y :: ·) else if y.c = z.c then cmpS t c' else none := fun t => by
                  rw [cmpS_xy, if_neg hy3, if_neg hz2, if_neg (by omega)]
                rw [es]
                by_cases hz1 : z.k = 1
                · rw [if_pos hz1]
                  have e : ((cmpS b' c').map (y :: ·)).bind (fun r => cmpS a r) = (cmpS b' c').bind (fun r => (cmpS a r).map (y :: ·)) := by
                    cases cmpS b' c' with
                    | none => rfl
                    | some r =>
                      show cmpS a (y :: r) = _
                      cases a with
                      | nil => rw [cmpS_y, if_pos hy2]; rfl
                      | cons x a' => rw [cmpS_xy, if_neg (nD x a' rfl), if_pos hy2]; rfl
                  rw [e]
                  exact asc_map ih (fun r => by rw [es, if_pos hz1]) (fun r => rfl)
                · rw [if_neg hz1]
                  have e : ((cmpS a b').map (y :: ·)).bind (fun t => cmpS t (z :: c')) = if y.c = z.c then (cmpS a b').bind (fun t => cmpS t c') else none := by
                    cases cmpS a b' with
                    | none => split <;> rfl
                    | some t => show cmpS (y :: t) (z :: c') = _; rw [es, if_neg hz1]; rfl
                  rw [e]
                  by_cases hcc : y.c = z.c
                  · rw [if_pos hcc, if_pos hcc]; exact ih
                  · rw [if_neg hcc, if_neg hcc]; rfl
            · -- what the second keeps
              have hy1 : y.k = 1 := by have := hb y List.mem_cons_self; rcases this with q | q | q <;> omega
              have es : ∀ r z c', z.k ≠ 2 → cmpS (y :: r) (z :: c') = (cmpS r c').map (z :: ·) := fun r z c' hz2 => by rw [cmpS_xy, if_neg hy3, if_neg hz2, if_pos hy1]
              cases a with
              | nil =>
                rw [cmpS_y, if_neg hy2]
                show none = _
                cases c with
                | nil => rw [cmpS_x, if_neg hy3]; rfl
                | cons z c' =>
                  rw [es _ _ _ (nz z c' rfl)]
                  cases cmpS b' c' with
                  | none => rfl
                  | some r => show none = cmpS [] (z :: r); rw [cmpS_y, if_neg (nz z c' rfl)]
              | cons x a' =>
                have hx : x.k ≠ 3 := nD x a' rfl
                cases c with
                | nil =>
                  rw [cmpS_x, if_neg hy3]
                  have el : ∀ t, cmpS (x :: a') (y :: b') = some t → cmpS t [] = none := fun t ht => by
                    rw [cmpS_xy, if_neg hx, if_neg hy2] at ht
                    split at ht
                    · cases hq : cmpS a' b' with
                      | none => rw [hq] at ht; cases ht
                      | some r => rw [hq] at ht; cases ht; rw [cmpS_x, if_neg hy3]
                    · cases hq : cmpS a' b' with
                      | none => rw [hq] at ht; cases ht
                      | some r => rw [hq] at ht; cases ht; rw [cmpS_x, if_neg hx]
                  cases ht : cmpS (x :: a') (y :: b') with
                  | none => rfl
                  | some t => exact el t ht
                | cons z c' =>
                  have hz2 : z.k ≠ 2 := nz z c' rfl
                  have ih := IH a' b' c' (by simp at h; omega) (tl ha) (tl hb) (tl hc)
                  rw [es _ _ _ hz2, cmpS_xy, if_neg hx, if_neg hy2]
                  have ex : ∀ u r v, u.k ≠ 3 → cmpS (u :: r) (z :: v) = if u.k = 1 then (cmpS r v).map (z :: ·) else if z.k = 1 then (cmpS r v).map (u :: ·) else if u.c = z.c then cmpS r v else none := fun u r v hu => by rw [cmpS_xy, if_neg hu, if_neg hz2]
                  have er : ((cmpS b' c').map (z :: ·)).bind (fun r => cmpS (x :: a') r) = (cmpS b' c').bind (fun r => cmpS (x :: a') (z :: r)) := by cases cmpS b' c' <;> rfl
                  rw [er]
                  by_cases hx1 : x.k = 1
                  · rw [if_pos hx1]
                    have e1 : ((cmpS a' b').map (y :: ·)).bind (fun t => cmpS t (z :: c')) = ((cmpS a' b').bind (fun t => cmpS t c')).map (z :: ·) := by
                      cases cmpS a' b' with
                      | none => rfl
                      | some t => exact es t z c' hz2
                    have e2 : ((cmpS b' c').bind fun r => cmpS (x :: a') (z :: r)) = ((cmpS b' c').bind (fun r => cmpS a' r)).map (z :: ·) := by
                      cases cmpS b' c' with
                      | none => rfl
                      | some r => show cmpS (x :: a') (z :: r) = _; rw [ex _ _ _ hx, if_pos hx1]; rfl
                    rw [e1, e2, ih]
                  · rw [if_neg hx1, if_pos hy1]
                    by_cases hz1 : z.k = 1
                    · have e1 : ((cmpS a' b').map (x :: ·)).bind (fun t => cmpS t (z :: c')) = ((cmpS a' b').bind (fun t => cmpS t c')).map (x :: ·) := by
                        cases cmpS a' b' with
                        | none => rfl
                        | some t => show cmpS (x :: t) (z :: c') = _; rw [ex _ _ _ hx, if_neg hx1, if_pos hz1]; rfl
                      have e2 : ((cmpS b' c').bind fun r => cmpS (x :: a') (z :: r)) = ((cmpS b' c').bind (fun r => cmpS a' r)).map (x :: ·) := by
                        cases cmpS b' c' with
                        | none => rfl
                        | some r => show cmpS (x :: a') (z :: r) = _; rw [ex _ _ _ hx, if_neg hx1, if_pos hz1]; rfl
                      rw [e1, e2, ih]
                    · have e1 : ((cmpS a' b').map (x :: ·)).bind (fun t => cmpS t (z :: c')) = if x.c = z.c then (cmpS a' b').bind (fun t => cmpS t c') else none := by
                        cases cmpS a' b' with
                        | none => split <;> rfl
                        | some t => show cmpS (x :: t) (z :: c') = _; rw [ex _ _ _ hx, if_neg hx1, if_neg hz1]; rfl
                      have e2 : ((cmpS b' c').bind fun r => cmpS (x :: a') (z :: r)) = if x.c = z.c then (cmpS b' c').bind (fun r => cmpS a' r) else none := by
                        cases cmpS b' c' with
                        | none => split <;> rfl
                        | some r => show cmpS (x :: a') (z :: r) = _; rw [ex _ _ _ hx, if_neg hx1, if_neg hz1]; rfl
                      rw [e1, e2, ih]
/-- Whichever two are put together first. -/
theorem cmp_asc {a b c : List St} (ha : ∀ x ∈ a, sk x) (hb : ∀ x ∈ b, sk x) (hc : ∀ x ∈ c, sk x) : (cmpS a b).bind (fun t => cmpS t c) = (cmpS b c).bind (fun y => cmpS a y) := cmp_assoc _ a b c (Nat.le_refl _) ha hb hc
end Go.Proofs.YtfobkjoinjphdaaDoor.Doc1

namespace Go.Proofs.YtfobkjoinjphdaaDoor.Doc1

theorem apT_out (x : St) (r o : List UInt8) : apT (r, o) x = (apT (r, []) x).map (fun y => (y.1, o ++ y.2)) := by
  unfold apT
  cases r <;> simp <;> (repeat' split) <;> simp
theorem apTL_out : ∀ (l : List St) (r o : List UInt8), apTL l (r, o) = (apTL l (r, [])).map (fun y => (y.1, o ++ y.2))
  | [], r, o => by simp [apTL]
  | x :: l, r, o => by
    rw [apTL_cons, apTL_cons, apT_out]
    cases h : apT (r, []) x with
    | none => rfl
    | some y =>
      obtain ⟨r1, o1⟩ := y
      show apTL l (r1, o ++ o1) = (apTL l (r1, o1)).map _
      rw [apTL_out l r1 (o ++ o1), apTL_out l r1 o1]
      cases apTL l (r1, []) <;> simp
/-- One behind the other. -/
def seqA (a b : List St) (r o : List UInt8) : Option (List UInt8 × List UInt8) := (apTL a (r, [])).bind (fun y => (apTL b (y.2, o)).map (fun z => (y.1, z.2)))
theorem apT1 {x : St} (h : x.k = 1) (c : UInt8) (r o : List UInt8) : apT (c :: r, o) x = some (r, o ++ [c]) := by simp [apT, h]
theorem apT1n {x : St} (h : x.k = 1) (o : List UInt8) : apT ([], o) x = none := by simp [apT, h]
theorem apT2 {x : St} (h : x.k = 2) (r o : List UInt8) : apT (r, o) x = some (r, o ++ [x.c]) := by simp [apT, h]
theorem apT3 {x : St} (h : x.k = 3) (c : UInt8) (r o : List UInt8) : apT (c :: r, o) x = if c = x.c then some (r, o) else none := by simp [apT, h]
theorem apT3n {x : St} (h : x.k = 3) (o : List UInt8) : apT ([], o) x = none := by simp [apT, h]
theorem seq_push {x : St} {a b : List St} {r r' o : List UInt8} {e : UInt8} (h : apT (r, []) x = some (r', [e])) : seqA (x :: a) b r o = (apTL a (r', [])).bind (fun y => (apTL b (e :: y.2, o)).map (fun z => (y.1, z.2))) := by
  unfold seqA
  rw [apTL_cons, h, Option.bind_some, apTL_out a r' [e]]
  cases apTL a (r', []) <;> rfl
theorem seq_same {a b b' : List St} {r' o o' : List UInt8} {e : UInt8} (h : ∀ t, apTL b (e :: t, o) = apTL b' (t, o')) : (apTL a (r', [])).bind (fun y => (apTL b (e :: y.2, o)).map (fun z => (y.1, z.2))) = seqA a b' r' o' := by
  unfold seqA
  cases apTL a (r', []) with
  | none => rfl
  | some y => show (apTL b (e :: y.2, o)).map _ = (apTL b' (y.2, o')).map _; rw [h]
theorem seq_none {a b : List St} {r' o : List UInt8} {e : UInt8} (h : ∀ t, apTL b (e :: t, o) = none) : (apTL a (r', [])).bind (fun y => (apTL b (e :: y.2, o)).map (fun z => (y.1, z.2))) = none := by
  cases apTL a (r', []) with
  | none => rfl
  | some y => show (apTL b (e :: y.2, o)).map _ = none; rw [h]; rfl
theorem seq_fail {x : St} {a b : List St} {r o : List UInt8} (h : apT (r, []) x = none) : seqA (x :: a) b r o = none := by
  unfold seqA; rw [apTL_cons, h]; rfl
/-- What two changes put together do to a text: the first, then the second on what it makes. -/
theorem ap_cmp : ∀ (N : Nat) (a b T : List St), a.length + b.length ≤ N → (∀ x ∈ a, sk x) → (∀ y ∈ b, sk y) → cmpS a b = some T → ∀ r o, apTL T (r, o) = seqA a b r o := by
  intro N
  induction N with
  | zero =>
    intro a b T h _ _ hT r o
    obtain rfl := List.eq_nil_of_length_eq_zero (show a.length = 0 by omega)
    obtain rfl := List.eq_nil_of_length_eq_zero (show b.length = 0 by omega)
    rw [cmpS_nil] at hT
    cases hT
    simp [seqA, apTL]
  | succ N IH =>
    intro a b T h ha hb hT r o
    have tl : ∀ {x : St} {r : List St}, (∀ y ∈ x :: r, sk y) → ∀ y ∈ r, sk y := fun h y hy => h y (List.mem_cons_of_mem _ hy)
    by_cases hd : ∃ x a', a = x :: a' ∧ x.k = 3
    · obtain ⟨x, a', rfl, hx⟩ := hd
      rw [cmpS_drop hx] at hT
      cases hq : cmpS a' b with
      | none => rw [hq] at hT; cases hT
      | some T' =>
        rw [hq] at hT
        cases hT
        have ih := IH a' b T' (by simp at h; omega) (tl ha) hb hq
        rw [apTL_cons]
        cases r with
        | nil => rw [apT3n hx, seq_fail (apT3n hx [])]; rfl
        | cons c r =>
          rw [apT3 hx]
          by_cases hc : c = x.c
          · rw [if_pos hc, Option.bind_some, ih]
            unfold seqA
            rw [apTL_cons, apT3 hx, if_pos hc, Option.bind_some]
          · rw [if_neg hc, seq_fail (by rw [apT3 hx, if_neg hc])]; rfl
    · cases b with
      | nil =>
        cases a with
        | nil => rw [cmpS_nil] at hT; cases hT; simp [seqA, apTL]
        | cons x a' => rw [cmpS_x, if_neg (fun e => hd ⟨x, a', rfl, e⟩)] at hT; cases hT
      | cons y b' =>
        by_cases hy : y.k = 2
        · have e : cmpS a (y :: b') = (cmpS a b').map (y :: ·) := by
            cases a with
            | nil => rw [cmpS_y, if_pos hy]
            | cons x a' => rw [cmpS_xy, if_neg (fun e => hd ⟨x, a', rfl, e⟩), if_pos hy]
          rw [e] at hT
          cases hq : cmpS a b' with
          | none => rw [hq] at hT; cases hT
          | some T' =>
            rw [hq] at hT
            cases hT
            have ih := IH a b' T' (by simp at h ⊢; omega) ha (tl hb) hq
            rw [apTL_cons, apT2 hy, Option.bind_some, ih]
            unfold seqA
            cases apTL a (r, []) with
            | none => rfl
            | some z => show (apTL b' (z.2, o ++ [y.c])).map _ = (apTL (y :: b') (z.2, o)).map _; rw [apTL_cons, apT2 hy]; rfl
        · cases a with
          | nil => rw [cmpS_y, if_neg hy] at hT; cases hT
          | cons x a' =>
            have hx3 : x.k ≠ 3 := fun e => hd ⟨x, a', rfl, e⟩
            rw [cmpS_xy, if_neg hx3, if_neg hy] at hT
            have IHa := fun T' (hq : cmpS a' b' = some T') => IH a' b' T' (by simp at h; omega) (tl ha) (tl hb) hq
            have hy' : y.k = 1 ∨ y.k = 3 := by have := hb y List.mem_cons_self; rcases this with q | q | q <;> omega
            by_cases hx : x.k = 1
            · rw [if_pos hx] at hT
              cases hq : cmpS a' b' with
              | none => rw [hq] at hT; cases hT
              | some T' =>
                rw [hq] at hT
                cases hT
                rw [apTL_cons]
                cases r with
                | nil =>
                  rw [seq_fail (apT1n hx [])]
                  rcases hy' with q | q
                  · rw [apT1n q]; rfl
                  · rw [apT3n q]; rfl
                | cons c r =>
                  rw [seq_push (apT1 hx c r [])]
                  rcases hy' with q | q
                  · rw [apT1 q, Option.bind_some, IHa T' hq]
                    exact (seq_same (fun t => by rw [apTL_cons, apT1 q]; rfl)).symm
                  · rw [apT3 q]
                    by_cases hc : c = y.c
                    · rw [if_pos hc, Option.bind_some, IHa T' hq]
                      exact (seq_same (fun t => by rw [apTL_cons, apT3 q, if_pos hc]; rfl)).symm
                    · rw [if_neg hc, seq_none (fun t => by rw [apTL_cons, apT3 q, if_neg hc]; rfl)]; rfl
            · have hx2 : x.k = 2 := by have := ha x List.mem_cons_self; rcases this with q | q | q <;> omega
              rw [if_neg hx] at hT
              rw [seq_push (apT2 hx2 r [])]
              rcases hy' with q | q
              · rw [if_pos q] at hT
                cases hq : cmpS a' b' with
                | none => rw [hq] at hT; cases hT
                | some T' =>
                  rw [hq] at hT
                  cases hT
                  rw [apTL_cons, apT2 hx2, Option.bind_some, IHa T' hq]
                  exact (seq_same (fun t => by rw [apTL_cons, apT1 q]; rfl)).symm
              · rw [if_neg (by omega)] at hT
                by_cases hc : x.c = y.c
                · rw [if_pos hc] at hT
                  rw [IHa T hT]
                  exact (seq_same (fun t => by rw [apTL_cons, apT3 q, if_pos hc]; rfl)).symm
                · rw [if_neg hc] at hT; cases hT
end Go.Proofs.YtfobkjoinjphdaaDoor.Doc1

set_option linter.unusedVariables false
namespace Go.Proofs.YtfobkjoinjphdaaDoor
open Go.RowKit
open Doc1

theorem cmp_facts : ∀ (N : Nat) (a b T : List St), a.length + b.length ≤ N → cmpS a b = some T → (∀ x ∈ T, x ∈ a ∨ x ∈ b) ∧ ((∀ x ∈ a, sk x) → (∀ x ∈ b, sk x) → ctk T = ctk a) := by
  intro N
  induction N with
  | zero =>
    intro a b T h hT
    have ea : a = [] := List.eq_nil_of_length_eq_zero (by omega)
    have eb : b = [] := List.eq_nil_of_length_eq_zero (by omega)
    subst ea eb
    rw [cmpS_nil] at hT
    cases hT
    exact ⟨fun x h => absurd h (by simp), fun _ _ => rfl⟩
  | succ N IH =>
    intro a b T h hT
    have wk : ∀ {x : St} {a b a' b' T' : List St}, (∀ y ∈ T', y ∈ a' ∨ y ∈ b') → (∀ y ∈ a', y ∈ a) → (∀ y ∈ b', y ∈ b) → (x ∈ a ∨ x ∈ b) → ∀ y ∈ x :: T', y ∈ a ∨ y ∈ b := fun h1 h2 h3 h4 y hy => by
      rcases List.mem_cons.1 hy with rfl | hy
      · exact h4
      · exact (h1 y hy).imp (h2 y) (h3 y)
    have c1 : ∀ (x : St) (l : List St), x.k ≠ 2 → ctk (x :: l) = ctk l + 1 := fun x l hx => by simp [ctk, hx]
    have c2 : ∀ (x : St) (l : List St), x.k = 2 → ctk (x :: l) = ctk l := fun x l hx => by simp [ctk, hx]
    cases a with
    | nil =>
      cases b with
      | nil =>
        rw [cmpS_nil] at hT
        cases hT
        exact ⟨fun x h => absurd h (by simp), fun _ _ => rfl⟩
      | cons y ys =>
        rw [cmpS_y] at hT
        split at hT
        · rename_i hy
          obtain ⟨T', e, rfl⟩ := Option.map_eq_some_iff.1 hT
          obtain ⟨i1, i2⟩ := IH [] ys T' (by simp only [List.length_cons, List.length_nil] at h ⊢; omega) e
          exact ⟨wk i1 (fun _ h => h) (fun _ h => List.mem_cons_of_mem _ h) (.inr (List.mem_cons_self)), fun ha hb => by rw [c2 _ _ hy, i2 ha (fun z hz => hb z (List.mem_cons_of_mem _ hz))]⟩
        · cases hT
    | cons x xs =>
      cases b with
      | nil =>
        rw [cmpS_x] at hT
        split at hT
        · rename_i hx
          obtain ⟨T', e, rfl⟩ := Option.map_eq_some_iff.1 hT
          obtain ⟨i1, i2⟩ := IH xs [] T' (by simp only [List.length_cons, List.length_nil] at h ⊢; omega) e
          exact ⟨wk i1 (fun _ h => List.mem_cons_of_mem _ h) (fun _ h => h) (.inl (List.mem_cons_self)), fun ha hb => by rw [c1 _ _ (by omega), c1 _ _ (by omega), i2 (fun z hz => ha z (List.mem_cons_of_mem _ hz)) hb]⟩
        · cases hT
      | cons y ys =>
        simp only [List.length_cons] at h
        rw [cmpS_xy] at hT
        split at hT
        · rename_i hx
          obtain ⟨T', e, rfl⟩ := Option.map_eq_some_iff.1 hT
          obtain ⟨i1, i2⟩ := IH xs (y :: ys) T' (by simp only [List.length_cons]; omega) e
          exact ⟨wk i1 (fun _ h => List.mem_cons_of_mem _ h) (fun _ h => h) (.inl (List.mem_cons_self)), fun ha hb => by rw [c1 _ _ (by omega), c1 _ _ (by omega), i2 (fun z hz => ha z (List.mem_cons_of_mem _ hz)) hb]⟩
        · rename_i hx
          split at hT
          · rename_i hy
            obtain ⟨T', e, rfl⟩ := Option.map_eq_some_iff.1 hT
            obtain ⟨i1, i2⟩ := IH (x :: xs) ys T' (by simp only [List.length_cons]; omega) e
            exact ⟨wk i1 (fun _ h => h) (fun _ h => List.mem_cons_of_mem _ h) (.inr (List.mem_cons_self)), fun ha hb => by rw [c2 _ _ hy, i2 ha (fun z hz => hb z (List.mem_cons_of_mem _ hz))]⟩
          · rename_i hy
            split at hT
            · rename_i hx1
              obtain ⟨T', e, rfl⟩ := Option.map_eq_some_iff.1 hT
              obtain ⟨i1, i2⟩ := IH xs ys T' (by omega) e
              exact ⟨wk i1 (fun _ h => List.mem_cons_of_mem _ h) (fun _ h => List.mem_cons_of_mem _ h) (.inr (List.mem_cons_self)), fun ha hb => by rw [c1 _ _ hy, c1 _ _ (by omega), i2 (fun z hz => ha z (List.mem_cons_of_mem _ hz)) (fun z hz => hb z (List.mem_cons_of_mem _ hz))]⟩
            · rename_i hx1
              split at hT
              · obtain ⟨T', e, rfl⟩ := Option.map_eq_some_iff.1 hT
                obtain ⟨i1, i2⟩ := IH xs ys T' (by omega) e
                refine ⟨wk i1 (fun _ h => List.mem_cons_of_mem _ h) (fun _ h => List.mem_cons_of_mem _ h) (.inl (List.mem_cons_self)), fun ha hb => ?_⟩
                have i := i2 (fun z hz => ha z (List.mem_cons_of_mem _ hz)) (fun z hz => hb z (List.mem_cons_of_mem _ hz))
                by_cases hx2 : x.k = 2
                · rw [c2 _ _ hx2, c2 _ _ hx2, i]
                · rw [c1 _ _ hx2, c1 _ _ hx2, i]
              · split at hT
                · obtain ⟨i1, i2⟩ := IH xs ys T (by omega) hT
                  refine ⟨fun z hz => (i1 z hz).imp (List.mem_cons_of_mem _) (List.mem_cons_of_mem _), fun ha hb => ?_⟩
                  have hk := ha x (List.mem_cons_self)
                  have hx2 : x.k = 2 := by rcases hk with h | h | h <;> omega
                  rw [c2 _ _ hx2, i2 (fun z hz => ha z (List.mem_cons_of_mem _ hz)) (fun z hz => hb z (List.mem_cons_of_mem _ hz))]
                · cases hT

theorem sw_apT {p d : St} (hp : p.k = 2) (hd : d.k = 3) (y : List UInt8 × List UInt8) (b : List St) : apTL (p :: d :: b) y = apTL (d :: p :: b) y := by
  obtain ⟨r, o⟩ := y
  rw [apTL_cons, apT2 hp, Option.bind_some, apTL_cons]
  rw [apTL_cons d]
  cases r with
  | nil => rw [apT3n hd, apT3n hd]; rfl
  | cons c r =>
    rw [apT3 hd, apT3 hd]
    by_cases hc : c = d.c
    · rw [if_pos hc, if_pos hc, Option.bind_some, Option.bind_some, apTL_cons, apT2 hp, Option.bind_some]
    · rw [if_neg hc, if_neg hc]; rfl
theorem sw_ap {a b : List St} (h : SwE a b) (y : List UInt8 × List UInt8) : apTL a y = apTL b y := by
  induction h with
  | refl => rfl
  | swap a b hp hd =>
    rw [apTL_app, apTL_app]
    congr 1
    funext z
    exact sw_apT hp hd z b
  | trans _ _ i1 i2 => exact i1.trans i2
theorem sw_ctk {a b : List St} (h : SwE a b) : ctk a = ctk b := by
  induction h with
  | refl => rfl
  | swap a b hp hd => rw [ctk_app, ctk_app]; congr 1; simp [ctk, hp, hd]
  | trans _ _ i1 i2 => exact i1.trans i2
/-- What is told of two changes put together. -/
theorem cmp_yes {A B : List Pt} (h : (cmpO A B).2 = true) : goodO A = true ∧ goodO B = true ∧ mkL A = tkL B ∧ goodO (cmpO A B).1 = true ∧ ∃ T, cmpS (stL A) (stL B) = some T ∧ (cmpO A B).1 = (gath g0 T).out ∧ SwE (stL (cmpO A B).1) T := by
  by_cases hall : goodO A = true ∧ goodO B = true ∧ mkL A = tkL B
  · obtain ⟨ha, hb, hm⟩ := hall
    obtain ⟨k1, k2⟩ := cmpO_eq ha hb
    cases hT : cmpS (stL A) (stL B) with
    | none => rw [k2 hT] at h; cases h
    | some T =>
      have e := k1 T hT
      rw [e] at h
      simp only at h
      rw [h, if_pos rfl] at e
      refine ⟨ha, hb, hm, by rw [e]; exact h, T, rfl, by rw [e], ?_⟩
      rw [e]
      show SwE (stL (gath g0 T).out) T
      rw [gst_out]
      have hz : ∀ x ∈ T, sz0 x := fun x hx => ((cmp_facts _ _ _ _ (Nat.le_refl _) hT).1 x hx).elim (stL_sz0 x) (stL_sz0 x)
      exact gst_gath T g0 gi0 hz
  · rw [cmpO_no hall] at h; cases h
/-- Either way the same. -/
theorem cmp_thrice {A B C : List Pt} (h1 : (cmpO A B).2 = true) (h2 : (cmpO B C).2 = true) (h3 : (cmpO (cmpO A B).1 C).2 = true) (h4 : (cmpO A (cmpO B C).1).2 = true) : (cmpO (cmpO A B).1 C).1 = (cmpO A (cmpO B C).1).1 := by
  obtain ⟨gA, gB, m1, g1, T1, c1, e1, s1⟩ := cmp_yes h1
  obtain ⟨-, gC, m2, g2, T2, c2, e2, s2⟩ := cmp_yes h2
  obtain ⟨-, -, m3, g3, T3, c3, e3, s3⟩ := cmp_yes h3
  obtain ⟨-, -, m4, g4, T4, c4, e4, s4⟩ := cmp_yes h4
  have k : ∀ {l : List Pt}, goodO l = true → ∀ x ∈ stL l, sk x := fun hl x hx => (stL_so (goodO_pk hl) x hx).1
  have as_ := cmp_asc (k gA) (k gB) (k gC)
  rw [c1, c2, Option.bind_some, Option.bind_some] at as_
  have o1 := s1.cmpA (stL C)
  have o2 := s2.cmpB (stL A)
  rw [c3] at o1
  rw [c4, ← as_] at o2
  have o3 := o1.trans o2.symm
  rcases o3 with ⟨c, -⟩ | ⟨x, y, ex, ey, hE⟩
  · cases c
  · cases ex
    cases ey
    rw [e3, e4, hE g0]

/-- A text that the change takes, and the text that it makes of it. -/
def kx (n : Int) : List UInt8 := List.replicate n.toNat 107
def sLl (l : List Pt) : List UInt8 := l.flatMap (fun p => kx p.keep ++ p.drop.data.toList)
def tLl (l : List Pt) : List UInt8 := l.flatMap (fun p => kx p.keep ++ p.put.data.toList)
theorem ap_one {p : Pt} (h : pk p ≠ 0) (r o : List UInt8) : apTL (stp p) (kx p.keep ++ p.drop.data.toList ++ r, o) = some (r, o ++ (kx p.keep ++ p.put.data.toList)) := by
  unfold stp kx
  rw [apTL_app, apTL_keep, if_neg (by simp only [List.length_append, List.length_replicate]; omega), Option.bind_some, apTL_app, apTL_put, Option.bind_some, apTL_drop]
  simp
theorem ap_texts : ∀ {l : List Pt}, (∀ p ∈ l, pk p ≠ 0) → ∀ r o, apTL (stL l) (sLl l ++ r, o) = some (r, o ++ tLl l)
  | [], _, r, o => by simp [stL, sLl, tLl, apTL]
  | p :: l, h, r, o => by
    have e1 : sLl (p :: l) ++ r = kx p.keep ++ p.drop.data.toList ++ (sLl l ++ r) := by simp [sLl]
    have e2 : o ++ tLl (p :: l) = o ++ (kx p.keep ++ p.put.data.toList) ++ tLl l := by simp [tLl]
    rw [stL_cons, apTL_app, e1, ap_one (h p List.mem_cons_self), Option.bind_some, ap_texts (fun q hq => h q (List.mem_cons_of_mem _ hq)), e2]
theorem ok_sLl {l : List Pt} (h : ∀ p ∈ l, pk p ≠ 0) : allOk (sLl l) = true := by
  have e : ∀ c ∈ sLl l, okC c = true := fun c hc => by
    obtain ⟨p, hp, hm⟩ := List.mem_flatMap.1 hc
    rcases List.mem_append.1 hm with h1 | h1
    · rw [List.eq_of_mem_replicate h1]; decide
    · have hx : (⟨3, c⟩ : St) ∈ stL l := List.mem_flatMap.2 ⟨p, hp, by unfold stp; exact List.mem_append_right _ (List.mem_append_right _ (List.mem_map.2 ⟨c, h1, rfl⟩))⟩
      exact (stL_so h _ hx).2 (by simp)
  unfold allOk
  exact List.all_eq_true.2 e
theorem texts_good {A : List Pt} (h : goodO A = true) {s t : ByteArray} (hs : s.data.toList = sLl A) (ht : t.data.toList = tLl A) : good s.data.toList = true ∧ good t.data.toList = true ∧ (s.size : Int) = tkL A ∧ (t.size : Int) = mkL A ∧ apTL (stL A) (s.data.toList, []) = some ([], t.data.toList) := by
  have hp := goodO_pk h
  obtain ⟨-, h3, h4⟩ := goodO_le h
  have hap : apTL (stL A) (s.data.toList, []) = some ([], t.data.toList) := by
    have := ap_texts hp [] []
    rw [List.append_nil, List.nil_append] at this
    rw [hs, ht]; exact this
  obtain ⟨e1, e2, -⟩ := apTL_left _ _ _ _ (fun q hq => (stL_so hp q hq).1) hap
  have e3 := (stL_sums A hp).1
  have e4 := sz_list s
  have hsz : (s.size : Int) = tkL A := by
    have := congrArg List.length e1
    simp only [List.length_nil, List.length_drop] at this
    omega
  have gs : good s.data.toList = true := by
    unfold good
    rw [Bool.and_eq_true]
    exact ⟨by rw [hs]; exact ok_sLl hp, decide_eq_true (by omega)⟩
  have ea := (aplO_steps h gs).1 _ hsz hap
  have eb := (undo (l := A) (s := s) (by rw [ea])).2.2
  rw [ea] at eb
  have e5 : (ba t.data.toList) = t := ba_ext (by rw [ba_list])
  rw [e5] at eb
  simp only at eb
  have okt := ap_ok _ (stL_so hp) _ _ _ _ hap (by rw [hs]; exact ok_sLl hp) rfl
  have e6 := sz_list t
  exact ⟨gs, by unfold good; rw [Bool.and_eq_true]; exact ⟨okt, decide_eq_true (by omega)⟩, hsz, eb, hap⟩
/-- Put together they do what they do one behind the other. -/
theorem cmp_apply {A B : List Pt} (h : (cmpO A B).2 = true) {s t : ByteArray} (hs : s.data.toList = sLl A) (ht : t.data.toList = tLl A) : aplO B t = aplO (cmpO A B).1 s := by
  obtain ⟨gA, gB, hm, gAB, T, hT, -, sw⟩ := cmp_yes h
  obtain ⟨gs, gt, es, et, hap⟩ := texts_good gA hs ht
  have pA := goodO_pk gA
  have pB := goodO_pk gB
  have kA : ∀ x ∈ stL A, sk x := fun x hx => (stL_so pA x hx).1
  have kB : ∀ x ∈ stL B, sk x := fun x hx => (stL_so pB x hx).1
  have hseq : apTL (stL (cmpO A B).1) (s.data.toList, []) = (apTL (stL B) (t.data.toList, [])).map (fun z => ([], z.2)) := by
    rw [sw_ap sw, ap_cmp _ _ _ _ (Nat.le_refl _) kA kB hT]
    unfold seqA
    rw [hap]; rfl
  have c1 := (cmp_facts _ _ _ _ (Nat.le_refl _) hT).2 kA kB
  have c2 := sw_ctk sw
  have c3 := (stL_sums A pA).1
  have c4 := (stL_sums _ (goodO_pk gAB)).1
  have hsAB : (s.size : Int) = tkL (cmpO A B).1 := by omega
  obtain ⟨b1, b2, -⟩ := aplO_steps gB gt
  obtain ⟨d1, d2, -⟩ := aplO_steps gAB gs
  cases hB : apTL (stL B) (t.data.toList, []) with
  | none => rw [b2 hB, d2 (by rw [hseq, hB]; rfl)]
  | some y =>
    obtain ⟨r, o⟩ := y
    obtain ⟨e1, e2, -⟩ := apTL_left _ _ _ _ kB hB
    have e3 := (stL_sums B pB).1
    have e4 := sz_list t
    have : r = [] := by
      simp only at e1
      rw [e1]
      apply List.drop_eq_nil_of_le
      omega
    subst this
    rw [b1 o (by omega) hB, d1 o hsAB (by rw [hseq, hB]; rfl)]
end Go.Proofs.YtfobkjoinjphdaaDoor

set_option linter.unusedVariables false
namespace Go.Proofs.YtfobkjoinjphdaaDoor
open Go.RowKit
open Doc1

set_option maxRecDepth 100000 in
set_option maxHeartbeats 4000000 in
theorem compI_no (u v : Value) (w : World) (x1 y1 x2 y2 : Int) (b1 b2 : Bool) (hA : ∀ w1, Below w.heap.size w w1 → Calls Tryd.prog 17 #[u] w1 fun e w' => e = .returned (.tuple #[.int .i64 x1, .int .i64 y1, .bool b1]) ∧ Below w1.heap.size w1 w')
    (hB : ∀ w1, Below w.heap.size w w1 → Calls Tryd.prog 17 #[v] w1 fun e w' => e = .returned (.tuple #[.int .i64 x2, .int .i64 y2, .bool b2]) ∧ Below w1.heap.size w1 w') (hn : (b1 && b2) = false) :
    Calls Tryd.prog 5 #[u, v] w fun e w' => e = .returned (.tuple #[.slice none 0 0, .bool false]) ∧ Below w.heap.size w w' := by
  have SA := hide hA
  have SB := hide hB
  have hb0 : Hid (∀ a b : Obj, Below w.heap.size w ((w.alloc a).alloc b)) := hide (fun a b => ((Below.refl _ _).alloc (Nat.le_refl _) _).alloc (by simp) _)
  clear hA hB
  have fin : ∀ w2, Below w.heap.size w w2 → Below w.heap.size w ((w2.setCell ⟨w.heap.size, 0, none⟩ (.slice none 0 0)).setCell ⟨w.heap.size + 1, 0, none⟩ (.bool false)) := fun w2 h2 =>
    (h2.setCell (p := ⟨w.heap.size, 0, none⟩) (Nat.le_refl _) _).setCell (p := ⟨w.heap.size + 1, 0, none⟩) (by show _ ≤ _ + 1; omega) _
  have HF := hide fin
  clear fin
  cases b1 with
  | false =>
    go_enter Tryd.func5, Tryd.ntmps5
    go_wp2_with fail
    refine (SA.out _ (hb0.out _ _)).mono ?_
    rintro e w1 ⟨rfl, hb'⟩
    obtain ⟨⟨q0, q1⟩, hsw1, hb1⟩ := boxes2_up hb'
    clear hb' hb0
    go_wp2_with fail
    refine (SB.out _ hb1).mono ?_
    rintro e w2 ⟨rfl, hb'⟩
    have hb2 := hide (hb1.trans (hb'.mono hb1.size))
    replace q0 := q0.up hb'
    replace q1 := q1.up hb'
    clear hb' hb1 SA SB hsw1
    have e0 := q0.cell
    have f0 := q0.fz
    have e1 := (q1.other (B' := w.heap.size) (by omega) (.slice none 0 0)).cell
    have f1 := (q1.other (B' := w.heap.size) (by omega) (.slice none 0 0)).fz
    have k1 := ((q0.set (.slice none 0 0)).other (B' := w.heap.size + 1) (by omega) (.bool false)).cell
    have k2 := ((q1.other (B' := w.heap.size) (by omega) (.slice none 0 0)).set (.bool false)).cell
    clear q0 q1
    go_wp2
    refine bodyPost_ret (v := .tuple #[.slice none 0 0, .bool false]) (by simp [results, Tryd.results5, go_sem, k1, k2]) rfl ⟨rfl, HF.out _ hb2.out⟩
  | true =>
    have h2 : b2 = false := by simpa using hn
    subst h2
    go_enter Tryd.func5, Tryd.ntmps5
    go_wp2_with fail
    refine (SA.out _ (hb0.out _ _)).mono ?_
    rintro e w1 ⟨rfl, hb'⟩
    obtain ⟨⟨q0, q1⟩, hsw1, hb1⟩ := boxes2_up hb'
    clear hb' hb0
    go_wp2_with fail
    refine (SB.out _ hb1).mono ?_
    rintro e w2 ⟨rfl, hb'⟩
    have hb2 := hide (hb1.trans (hb'.mono hb1.size))
    replace q0 := q0.up hb'
    replace q1 := q1.up hb'
    clear hb' hb1 SA SB hsw1
    have e0 := q0.cell
    have f0 := q0.fz
    have e1 := (q1.other (B' := w.heap.size) (by omega) (.slice none 0 0)).cell
    have f1 := (q1.other (B' := w.heap.size) (by omega) (.slice none 0 0)).fz
    have k1 := ((q0.set (.slice none 0 0)).other (B' := w.heap.size + 1) (by omega) (.bool false)).cell
    have k2 := ((q1.other (B' := w.heap.size) (by omega) (.slice none 0 0)).set (.bool false)).cell
    clear q0 q1
    go_wp2
    refine bodyPost_ret (v := .tuple #[.slice none 0 0, .bool false]) (by simp [results, Tryd.results5, go_sem, k1, k2]) rfl ⟨rfl, HF.out _ hb2.out⟩

set_option maxRecDepth 100000 in
set_option maxHeartbeats 2000000 in
theorem compS_no (u v : Value) (w : World) (b1 b2 : Bool) (hA : Calls Tryd.prog 23 #[u] w fun e w' => e = .returned (.bool b1) ∧ Below w.heap.size w w')
    (hB : ∀ w1, Below w.heap.size w w1 → Calls Tryd.prog 23 #[v] w1 fun e w' => e = .returned (.bool b2) ∧ Below w1.heap.size w1 w') (hn : (b1 && b2) = false) :
    Calls Tryd.prog 6 #[u, v] w fun e w' => e = .returned (.tuple #[.slice none 0 0, .bool false]) ∧ Below w.heap.size w w' := by
  have A := hide hA
  have B := hide hB
  clear hA hB
  cases b1 with
  | false =>
    go_enter Tryd.func6, Tryd.ntmps6
    go_wp2_with fail
    refine A.out.mono ?_
    rintro e w1 ⟨rfl, hb1⟩
    go_wp2
    go_ret2
    exact ⟨rfl, hb1⟩
  | true =>
    have h2 : b2 = false := by simpa using hn
    subst h2
    go_enter Tryd.func6, Tryd.ntmps6
    go_wp2_with fail
    refine A.out.mono ?_
    rintro e w1 ⟨rfl, hb1⟩
    go_wp2_with fail
    refine (B.out _ hb1).mono ?_
    rintro e w2 ⟨rfl, hb2⟩
    replace hb2 := hb1.trans (hb2.mono hb1.size)
    go_wp2
    go_ret2
    exact ⟨rfl, hb2⟩

theorem goodOpS_an {w : World} {B : Nat} {v : Value} {op : List Pt} (h : POwn w B v op) (hT : Tab w) (hsm : ∀ p ∈ op, smP p) : Calls Tryd.prog 23 #[v] w fun e w' => e = .returned (.bool (goodO op)) ∧ Below w.heap.size w w' := by
  by_cases hl : op.length ≤ 1048576
  · obtain ⟨aw, g, cap, rfl, hp⟩ := own_pin h hT (smP_sz hsm) hl
    exact goodOpS hp
  · obtain ⟨a, cap, rfl⟩ := own_sl h
    rw [no_big hl]
    exact goodOpS_big a op.length cap (by omega)
/-- What both answer of rows of one's own. -/
def CoPost (A B : List Pt) (w : World) (e : Ending) (w' : World) : Prop := ∃ v, e = .returned (.tuple #[v, .bool (cmpO A B).2]) ∧ POwn w' w.heap.size v (cmpO A B).1 ∧ Below w.heap.size w w'
theorem cmp_bad {A B : List Pt} (h : (goodO A && goodO B) = false) : cmpO A B = ([], false) := cmpO_no (fun c => by rw [c.1, c.2.1] at h; cases h)
theorem compI_own {w : World} {P Q : Nat} {u v : Value} {A B : List Pt} (ha : POwn w P u A) (hb : POwn w Q v B) (hT : Tab w) (sa : ∀ p ∈ A, smP p) (sb : ∀ p ∈ B, smP p) : Calls Tryd.prog 5 #[u, v] w (CoPost A B w) := by
  cases hg : (goodO A && goodO B) with
  | false =>
    refine (compI_no u v w _ _ _ _ _ _ (fun w1 h => sizesI_own (own_below ha h) (hT.below h) sa) (fun w1 h => sizesI_own (own_below hb h) (hT.below h) sb) hg).mono ?_
    rintro e w' ⟨rfl, h⟩
    exact ⟨_, by rw [cmp_bad hg], by rw [cmp_bad hg]; exact World.ownsRow_nil _ _ _ _, h⟩
  | true =>
    rw [Bool.and_eq_true] at hg
    obtain ⟨a1, g1, c1, rfl, p1⟩ := own_pin ha hT (smP_sz sa) (by have := (goodO_parts hg.1).1; omega)
    obtain ⟨a2, g2, c2, rfl, p2⟩ := own_pin hb hT (smP_sz sb) (by have := (goodO_parts hg.2).1; omega)
    exact compI p1 p2 hT
theorem compS_own {w : World} {P Q : Nat} {u v : Value} {A B : List Pt} (ha : POwn w P u A) (hb : POwn w Q v B) (hT : Tab w) (sa : ∀ p ∈ A, smP p) (sb : ∀ p ∈ B, smP p) : Calls Tryd.prog 6 #[u, v] w (CoPost A B w) := by
  cases hg : (goodO A && goodO B) with
  | false =>
    refine (compS_no u v w _ _ (goodOpS_an ha hT sa) (fun w1 h => goodOpS_an (own_below hb h) (hT.below h) sb) hg).mono ?_
    rintro e w' ⟨rfl, h⟩
    exact ⟨_, by rw [cmp_bad hg], by rw [cmp_bad hg]; exact World.ownsRow_nil _ _ _ _, h⟩
  | true =>
    rw [Bool.and_eq_true] at hg
    obtain ⟨a1, g1, c1, rfl, p1⟩ := own_pin ha hT (smP_sz sa) (by have := (goodO_parts hg.1).1; omega)
    obtain ⟨a2, g2, c2, rfl, p2⟩ := own_pin hb hT (smP_sz sb) (by have := (goodO_parts hg.2).1; omega)
    exact compS p1 p2
end Go.Proofs.YtfobkjoinjphdaaDoor
