/- The plain mathematics of two changes put together, step by step; puts and drops beside one another may change places. -/
import Derived.Test.YtknilofnelhgmaaDoorOpsM
namespace Go.Proofs.YtknilofnelhgmaaDoor.Doc1

/-- Two changes put together: what is told, step by step. -/
def cmpS : List St → List St → Option (List St)
  | [], [] => some []
  | [], y :: ys => if y.k = 2 then (cmpS [] ys).map (y :: ·) else none
  | x :: xs, [] => if x.k = 3 then (cmpS xs []).map (x :: ·) else none
  | x :: xs, y :: ys => if x.k = 3 then (cmpS xs (y :: ys)).map (x :: ·) else if y.k = 2 then (cmpS (x :: xs) ys).map (y :: ·) else if x.k = 1 then (cmpS xs ys).map (y :: ·) else if y.k = 1 then (cmpS xs ys).map (x :: ·) else if x.c = y.c then cmpS xs ys else none
termination_by xs ys => xs.length + ys.length
theorem cmpS_nil : cmpS [] [] = some [] := by rw [cmpS]
theorem cmpS_y (y : St) (ys : List St) : cmpS [] (y :: ys) = if y.k = 2 then (cmpS [] ys).map (y :: ·) else none := by rw [cmpS]
theorem cmpS_x (x : St) (xs : List St) : cmpS (x :: xs) [] = if x.k = 3 then (cmpS xs []).map (x :: ·) else none := by rw [cmpS]
theorem cmpS_xy (x y : St) (xs ys : List St) : cmpS (x :: xs) (y :: ys) = if x.k = 3 then (cmpS xs (y :: ys)).map (x :: ·) else if y.k = 2 then (cmpS (x :: xs) ys).map (y :: ·) else if x.k = 1 then (cmpS xs ys).map (y :: ·) else if y.k = 1 then (cmpS xs ys).map (x :: ·) else if x.c = y.c then cmpS xs ys else none := by rw [cmpS]
/-- What is dropped is told at once. -/
theorem cmpS_drop {x : St} (h : x.k = 3) (xs ys : List St) : cmpS (x :: xs) ys = (cmpS xs ys).map (x :: ·) := by
  cases ys with
  | nil => rw [cmpS_x, if_pos h]
  | cons y ys => rw [cmpS_xy, if_pos h]
/-- Steps that gather alike, whatever was gathered ahead. -/
def Eqv (a b : List St) : Prop := ∀ G, gath G a = gath G b
theorem Eqv.refl (a : List St) : Eqv a a := fun _ => rfl
theorem Eqv.symm {a b : List St} (h : Eqv a b) : Eqv b a := fun G => (h G).symm
theorem Eqv.trans {a b c : List St} (h : Eqv a b) (k : Eqv b c) : Eqv a c := fun G => (h G).trans (k G)
theorem Eqv.cons {a b : List St} (h : Eqv a b) (x : St) : Eqv (x :: a) (x :: b) := fun G => h (G.add x)
theorem eqv_swap {p d : St} (hp : p.k = 2) (hd : d.k = 3) (l : List St) : Eqv (p :: d :: l) (d :: p :: l) := fun G => by
  show gath ((G.add p).add d) l = gath ((G.add d).add p) l
  congr 1
  unfold Gs.add
  rw [hp, hd]
  simp [Gs.endK]
def OE (a b : Option (List St)) : Prop := (a = none ∧ b = none) ∨ ∃ x y, a = some x ∧ b = some y ∧ Eqv x y
theorem OE.refl (a : Option (List St)) : OE a a := by
  cases a with
  | none => exact .inl ⟨rfl, rfl⟩
  | some x => exact .inr ⟨x, x, rfl, rfl, Eqv.refl x⟩
theorem OE.symm {a b : Option (List St)} (h : OE a b) : OE b a := by
  rcases h with ⟨h, k⟩ | ⟨x, y, h, k, e⟩
  · exact .inl ⟨k, h⟩
  · exact .inr ⟨y, x, k, h, e.symm⟩
theorem OE.trans {a b c : Option (List St)} (h : OE a b) (k : OE b c) : OE a c := by
  rcases h with ⟨rfl, rfl⟩ | ⟨x, y, rfl, rfl, e⟩
  · exact k
  · rcases k with ⟨h, _⟩ | ⟨x', z, h, rfl, e'⟩
    · cases h
    · cases h; exact .inr ⟨x, z, rfl, rfl, e.trans e'⟩
theorem OE.map {a b : Option (List St)} (h : OE a b) (x : St) : OE (a.map (x :: ·)) (b.map (x :: ·)) := by
  rcases h with ⟨rfl, rfl⟩ | ⟨u, v, rfl, rfl, e⟩
  · exact .inl ⟨rfl, rfl⟩
  · exact .inr ⟨_, _, rfl, rfl, e.cons x⟩
theorem oe_swap {p d : St} (hp : p.k = 2) (hd : d.k = 3) (a : Option (List St)) : OE ((a.map (d :: ·)).map (p :: ·)) ((a.map (p :: ·)).map (d :: ·)) := by
  cases a with
  | none => exact .inl ⟨rfl, rfl⟩
  | some x => exact .inr ⟨_, _, rfl, rfl, eqv_swap hp hd x⟩
/-- What the second puts may be told later. -/
theorem cmpS_put {p : St} (hp : p.k = 2) (ys : List St) : ∀ xs, OE (cmpS xs (p :: ys)) ((cmpS xs ys).map (p :: ·))
  | [] => by rw [cmpS_y, if_pos hp]; exact OE.refl _
  | x :: xs => by
    by_cases hx : x.k = 3
    · rw [cmpS_drop hx, cmpS_drop hx]
      exact ((cmpS_put hp ys xs).map x).trans (oe_swap hp hx _).symm
    · rw [cmpS_xy, if_neg hx, if_pos hp]; exact OE.refl _
theorem cmpS_swA {p d : St} (hp : p.k = 2) (hd : d.k = 3) (xs2 : List St) : ∀ (n : Nat) (xs1 ys : List St), xs1.length + ys.length = n → OE (cmpS (xs1 ++ p :: d :: xs2) ys) (cmpS (xs1 ++ d :: p :: xs2) ys)
  | n, [], [], _ => by
    have p3 : ¬ p.k = 3 := by omega
    rw [List.nil_append, List.nil_append, cmpS_drop hd, cmpS_x, if_neg p3, cmpS_x, if_neg p3]
    exact .inl ⟨rfl, rfl⟩
  | n, [], y :: ys, hn => by
    have p3 : ¬ p.k = 3 := by omega
    have p1 : ¬ p.k = 1 := by omega
    rw [List.nil_append, List.nil_append, cmpS_drop hd]
    by_cases hy : y.k = 2
    · simp only [cmpS_xy p y, if_neg p3, if_pos hy]
      match n, hn with
      | n + 1, hn =>
        have ih := cmpS_swA hp hd xs2 n [] ys (by simp at hn ⊢; omega)
        rw [List.nil_append, List.nil_append, cmpS_drop hd] at ih
        exact (ih.map y).trans (oe_swap hy hd _)
      | 0, hn => simp at hn
    · by_cases h1 : y.k = 1
      · simp only [cmpS_xy p y, if_neg p3, if_neg hy, if_neg p1, if_pos h1, cmpS_drop hd]
        exact oe_swap hp hd _
      · by_cases hc : p.c = y.c
        · simp only [cmpS_xy p y, if_neg p3, if_neg hy, if_neg p1, if_neg h1, if_pos hc, cmpS_drop hd]; exact OE.refl _
        · simp only [cmpS_xy p y, if_neg p3, if_neg hy, if_neg p1, if_neg h1, if_neg hc]; exact .inl ⟨rfl, rfl⟩
  | 0, x :: xs1, ys, hn => by simp at hn
  | n + 1, x :: xs1, [], hn => by
    rw [List.cons_append, List.cons_append]
    by_cases hx : x.k = 3
    · rw [cmpS_drop hx, cmpS_drop hx]
      exact (cmpS_swA hp hd xs2 n xs1 [] (by simp at hn ⊢; omega)).map x
    · rw [cmpS_x, if_neg hx, cmpS_x, if_neg hx]; exact .inl ⟨rfl, rfl⟩
  | n + 1, x :: xs1, y :: ys, hn => by
    rw [List.cons_append, List.cons_append]
    by_cases hx : x.k = 3
    · rw [cmpS_drop hx, cmpS_drop hx]
      exact (cmpS_swA hp hd xs2 n xs1 (y :: ys) (by simp at hn ⊢; omega)).map x
    · rw [cmpS_xy, if_neg hx, cmpS_xy, if_neg hx]
      by_cases hy : y.k = 2
      · rw [if_pos hy, if_pos hy]
        exact (cmpS_swA hp hd xs2 n (x :: xs1) ys (by simp at hn ⊢; omega)).map y
      · rw [if_neg hy, if_neg hy]
        have hl : ∃ m, xs1.length + ys.length = m ∧ m < n + 1 := ⟨_, rfl, by simp at hn; omega⟩
        obtain ⟨m, hm, hlt⟩ := hl
        have ih := cmpS_swA hp hd xs2 m xs1 ys hm
        by_cases h1 : x.k = 1
        · rw [if_pos h1, if_pos h1]; exact ih.map y
        · rw [if_neg h1, if_neg h1]
          by_cases h2 : y.k = 1
          · rw [if_pos h2, if_pos h2]; exact ih.map x
          · rw [if_neg h2, if_neg h2]
            by_cases hc : x.c = y.c
            · rw [if_pos hc, if_pos hc]; exact ih
            · rw [if_neg hc, if_neg hc]; exact .inl ⟨rfl, rfl⟩
termination_by n xs1 _ => (n, xs1.length)
theorem cmpS_swB {p d : St} (hp : p.k = 2) (hd : d.k = 3) (ys2 : List St) : ∀ (n : Nat) (xs ys1 : List St), xs.length + ys1.length = n → OE (cmpS xs (ys1 ++ p :: d :: ys2)) (cmpS xs (ys1 ++ d :: p :: ys2))
  | n, [], [], _ => by
    have d2 : ¬ d.k = 2 := by omega
    rw [List.nil_append, List.nil_append, cmpS_y, if_pos hp, cmpS_y, if_neg d2, cmpS_y, if_neg d2]
    exact .inl ⟨rfl, rfl⟩
  | 0, [], y :: ys1, hn => by simp at hn
  | n + 1, [], y :: ys1, hn => by
    rw [List.cons_append, List.cons_append, cmpS_y, cmpS_y]
    by_cases hy : y.k = 2
    · rw [if_pos hy, if_pos hy]
      exact (cmpS_swB hp hd ys2 n [] ys1 (by simp at hn ⊢; omega)).map y
    · rw [if_neg hy, if_neg hy]; exact .inl ⟨rfl, rfl⟩
  | 0, x :: xs, ys1, hn => by simp at hn
  | n + 1, x :: xs, [], hn => by
    rw [List.nil_append, List.nil_append]
    by_cases hx : x.k = 3
    · rw [cmpS_drop hx, cmpS_drop hx]
      have ih := cmpS_swB hp hd ys2 n xs [] (by simp at hn ⊢; omega)
      exact ih.map x
    · have d2 : ¬ d.k = 2 := by omega
      have d1 : ¬ d.k = 1 := by omega
      rw [cmpS_xy x p, if_neg hx, if_pos hp]
      by_cases h1 : x.k = 1
      · simp only [cmpS_xy x d, if_neg hx, if_neg d2, if_pos h1]
        exact (oe_swap hp hd _).trans ((cmpS_put hp ys2 xs).symm.map d)
      · by_cases hc : x.c = d.c
        · simp only [cmpS_xy x d, if_neg hx, if_neg d2, if_neg h1, if_neg d1, if_pos hc]; exact (cmpS_put hp ys2 xs).symm
        · simp only [cmpS_xy x d, if_neg hx, if_neg d2, if_neg h1, if_neg d1, if_neg hc]; exact .inl ⟨rfl, rfl⟩
  | n + 1, x :: xs, y :: ys1, hn => by
    rw [List.cons_append, List.cons_append]
    by_cases hx : x.k = 3
    · rw [cmpS_drop hx, cmpS_drop hx]
      have ih := cmpS_swB hp hd ys2 n xs (y :: ys1) (by simp at hn ⊢; omega)
      rw [List.cons_append, List.cons_append] at ih
      exact ih.map x
    · rw [cmpS_xy, if_neg hx, cmpS_xy, if_neg hx]
      by_cases hy : y.k = 2
      · rw [if_pos hy, if_pos hy]
        exact (cmpS_swB hp hd ys2 n (x :: xs) ys1 (by simp at hn ⊢; omega)).map y
      · rw [if_neg hy, if_neg hy]
        have hl : ∃ m, xs.length + ys1.length = m ∧ m < n + 1 := ⟨_, rfl, by simp at hn; omega⟩
        obtain ⟨m, hm, hlt⟩ := hl
        have ih := cmpS_swB hp hd ys2 m xs ys1 hm
        by_cases h1 : x.k = 1
        · rw [if_pos h1, if_pos h1]; exact ih.map y
        · rw [if_neg h1, if_neg h1]
          by_cases h2 : y.k = 1
          · rw [if_pos h2, if_pos h2]; exact ih.map x
          · rw [if_neg h2, if_neg h2]
            by_cases hc : x.c = y.c
            · rw [if_pos hc, if_pos hc]; exact ih
            · rw [if_neg hc, if_neg hc]; exact .inl ⟨rfl, rfl⟩
termination_by n xs _ => (n, xs.length)
end Go.Proofs.YtknilofnelhgmaaDoor.Doc1
