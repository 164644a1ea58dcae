/- The plain mathematics of two changes put together, step by step; puts and drops beside one another may change places. The mathematics of two changes put together: normal changes do as the changes themselves; whole pieces at once. -/
import Derived.Test.YtkjioadmebkaoaaDoorOpsM
namespace Go.Proofs.YtkjioadmebkaoaaDoor.Doc1

/-- Two changes put together: what is told, step by step. -/
def cmpS : List St → List St → Option (List St)
  | [], [] => some []
  | [], y :: ys => if y.k = 2 then (cmpS [] ys).map (y :: ·) else none
  | x :: xs, [] => if x.k = 3 then (cmpS xs []).map (x :: ·) else none
  | x :: xs, y :: ys => if x.k = 3 then (cmpS xs (y :: ys)).map (x :: ·) else if y.k = 2 then (cmpS (x :: xs) ys).map (y :: ·) else if x.k = 1 then (cmpS xs ys).map (y :: ·) else if y.k = 1 then (cmpS xs ys).map (x :: ·) else if x.c = y.c then cmpS xs ys else none
termination_by xs ys => xs.length + ys.length
theorem cmpS_nil : cmpS [] [] = some [] := by rw [cmpS]
theorem cmpS_y (y : St) (ys : List St) : cmpS [] (y :: ys) = if y.k = 2 then (cmpS [] ys).map (y :: ·) else none := by rw [cmpS]
theorem cmpS_x (x : St) (xs : List St) : cmpS (x :: xs) [] = if x.k = 3 then (cmpS xs []).map (x :: ·) else none := by rw [cmpS]
theorem cmpS_xy (x y : St) (xs ys : List St) : cmpS (x :: xs) (y :: ys) = if x.k = 3 then (cmpS xs (y :: ys)).map (x :: ·) else if y.k = 2 then (cmpS (x :: xs) ys).map (y :: ·) else if x.k = 1 then (cmpS xs ys).map (y :: ·) else if y.k = 1 then (cmpS xs ys).map (x :: ·) else if x.c = y.c then cmpS xs ys else none := by rw [cmpS]
/-- What is dropped is told at once. -/
theorem cmpS_drop {x : St} (h : x.k = 3) (xs ys : List St) : cmpS (x :: xs) ys = (cmpS xs ys).map (x :: ·) := by
  cases ys with
  | nil => rw [cmpS_x, if_pos h]
  | cons y ys => rw [cmpS_xy, if_pos h]
/-- Steps that gather alike, whatever was gathered ahead. -/
def Eqv (a b : List St) : Prop := ∀ G, gath G a = gath G b
theorem Eqv.refl (a : List St) : Eqv a a := fun _ => rfl
theorem Eqv.symm {a b : List St} (h : Eqv a b) : Eqv b a := fun G => (h G).symm
theorem Eqv.trans {a b c : List St} (h : Eqv a b) (k : Eqv b c) : Eqv a c := fun G => (h G).trans (k G)
theorem Eqv.cons {a b : List St} (h : Eqv a b) (x : St) : Eqv (x :: a) (x :: b) := fun G => h (G.add x)
theorem eqv_swap {p d : St} (hp : p.k = 2) (hd : d.k = 3) (l : List St) : Eqv (p :: d :: l) (d :: p :: l) := fun G => by
  show gath ((G.add p).add d) l = gath ((G.add d).add p) l
  congr 1
  unfold Gs.add
  rw [hp, hd]
  simp [Gs.endK]
def OE (a b : Option (List St)) : Prop := (a = none ∧ b = none) ∨ ∃ x y, a = some x ∧ b = some y ∧ Eqv x y
theorem OE.refl (a : Option (List St)) : OE a a := by
  cases a with
  | none => exact .inl ⟨rfl, rfl⟩
  | some x => exact .inr ⟨x, x, rfl, rfl, Eqv.refl x⟩
theorem OE.symm {a b : Option (List St)} (h : OE a b) : OE b a := by
  rcases h with ⟨h, k⟩ | ⟨x, y, h, k, e⟩
  · exact .inl ⟨k, h⟩
  · exact .inr ⟨y, x, k, h, e.symm⟩
theorem OE.trans {a b c : Option (List St)} (h : OE a b) (k : OE b c) : OE a c := by
  rcases h with ⟨rfl, rfl⟩ | ⟨x, y, rfl, rfl, e⟩
  · exact k
  · rcases k with ⟨h, _⟩ | ⟨x', z, h, rfl, e'⟩
    · cases h
    · cases h; exact .inr ⟨x, z, rfl, rfl, e.trans e'⟩
theorem OE.map {a b : Option (List St)} (h : OE a b) (x : St) : OE (a.map (x :: ·)) (b.map (x :: ·)) := by
  rcases h with ⟨rfl, rfl⟩ | ⟨u, v, rfl, rfl, e⟩
  · exact .inl ⟨rfl, rfl⟩
  · exact .inr ⟨_, _, rfl, rfl, e.cons x⟩
theorem oe_swap {p d : St} (hp : p.k = 2) (hd : d.k = 3) (a : Option (List St)) : OE ((a.map (d :: ·)).map (p :: ·)) ((a.map (p :: ·)).map (d :: ·)) := by
  cases a with
  | none => exact .inl ⟨rfl, rfl⟩
  | some x => exact .inr ⟨_, _, rfl, rfl, eqv_swap hp hd x⟩
/-- What the second puts may be told later. -/
theorem cmpS_put {p : St} (hp : p.k = 2) (ys : List St) : ∀ xs, OE (cmpS xs (p :: ys)) ((cmpS xs ys).map (p :: ·))
  | [] => by rw [cmpS_y, if_pos hp]; exact OE.refl _
  | x :: xs => by
    by_cases hx : x.k = 3
    · rw [cmpS_drop hx, cmpS_drop hx]
      exact ((cmpS_put hp ys xs).map x).trans (oe_swap hp hx _).symm
    · rw [cmpS_xy, if_neg hx, if_pos hp]; exact OE.refl _
theorem cmpS_swA {p d : St} (hp : p.k = 2) (hd : d.k = 3) (xs2 : List St) : ∀ (n : Nat) (xs1 ys : List St), xs1.length + ys.length = n → OE (cmpS (xs1 ++ p :: d :: xs2) ys) (cmpS (xs1 ++ d :: p :: xs2) ys)
  | n, [], [], _ => by
    have p3 : ¬ p.k = 3 := by omega
    rw [List.nil_append, List.nil_append, cmpS_drop hd, cmpS_x, if_neg p3, cmpS_x, if_neg p3]
    exact .inl ⟨rfl, rfl⟩
  | n, [], y :: ys, hn => by
    have p3 : ¬ p.k = 3 := by omega
    have p1 : ¬ p.k = 1 := by omega
    rw [List.nil_append, List.nil_append, cmpS_drop hd]
    by_cases hy : y.k = 2
    · simp only [cmpS_xy p y, if_neg p3, if_pos hy]
      match n, hn with
      | n + 1, hn =>
        have ih := cmpS_swA hp hd xs2 n [] ys (by simp at hn ⊢; omega)
        rw [List.nil_append, List.nil_append, cmpS_drop hd] at ih
        exact (ih.map y).trans (oe_swap hy hd _)
      | 0, hn => simp at hn
    · by_cases h1 : y.k = 1
      · simp only [cmpS_xy p y, if_neg p3, if_neg hy, if_neg p1, if_pos h1, cmpS_drop hd]
        exact oe_swap hp hd _
      · by_cases hc : p.c = y.c
        · simp only [cmpS_xy p y, if_neg p3, if_neg hy, if_neg p1, if_neg h1, if_pos hc, cmpS_drop hd]; exact OE.refl _
        · simp only [cmpS_xy p y, if_neg p3, if_neg hy, if_neg p1, if_neg h1, if_neg hc]; exact .inl ⟨rfl, rfl⟩
  | 0, x :: xs1, ys, hn => by simp at hn
  | n + 1, x :: xs1, [], hn => by
    rw [List.cons_append, List.cons_append]
    by_cases hx : x.k = 3
    · rw [cmpS_drop hx, cmpS_drop hx]
      exact (cmpS_swA hp hd xs2 n xs1 [] (by simp at hn ⊢; omega)).map x
    · rw [cmpS_x, if_neg hx, cmpS_x, if_neg hx]; exact .inl ⟨rfl, rfl⟩
  | n + 1, x :: xs1, y :: ys, hn => by
    rw [List.cons_append, List.cons_append]
    by_cases hx : x.k = 3
    · rw [cmpS_drop hx, cmpS_drop hx]
      exact (cmpS_swA hp hd xs2 n xs1 (y :: ys) (by simp at hn ⊢; omega)).map x
    · rw [cmpS_xy, if_neg hx, cmpS_xy, if_neg hx]
      by_cases hy : y.k = 2
      · rw [if_pos hy, if_pos hy]
        exact (cmpS_swA hp hd xs2 n (x :: xs1) ys (by simp at hn ⊢; omega)).map y
      · rw [if_neg hy, if_neg hy]
        have hl : ∃ m, xs1.length + ys.length = m ∧ m < n + 1 := ⟨_, rfl, by simp at hn; omega⟩
        obtain ⟨m, hm, hlt⟩ := hl
        have ih := cmpS_swA hp hd xs2 m xs1 ys hm
        by_cases h1 : x.k = 1
        · rw [if_pos h1, if_pos h1]; exact ih.map y
        · rw [if_neg h1, if_neg h1]
          by_cases h2 : y.k = 1
          · rw [if_pos h2, if_pos h2]; exact ih.map x
          · rw [if_neg h2, if_neg h2]
            by_cases hc : x.c = y.c
            · rw [if_pos hc, if_pos hc]; exact ih
            · rw [if_neg hc, if_neg hc]; exact .inl ⟨rfl, rfl⟩
termination_by n xs1 _ => (n, xs1.length)
theorem cmpS_swB {p d : St} (hp : p.k = 2) (hd : d.k = 3) (ys2 : List St) : ∀ (n : Nat) (xs ys1 : List St), xs.length + ys1.length = n → OE (cmpS xs (ys1 ++ p :: d :: ys2)) (cmpS xs (ys1 ++ d :: p :: ys2))
  | n, [], [], _ => by
    have d2 : ¬ d.k = 2 := by omega
    rw [List.nil_append, List.nil_append, cmpS_y, if_pos hp, cmpS_y, if_neg d2, cmpS_y, if_neg d2]
    exact .inl ⟨rfl, rfl⟩
  | 0, [], y :: ys1, hn => by simp at hn
  | n + 1, [], y :: ys1, hn => by
    rw [List.cons_append, List.cons_append, cmpS_y, cmpS_y]
    by_cases hy : y.k = 2
    · rw [if_pos hy, if_pos hy]
      exact (cmpS_swB hp hd ys2 n [] ys1 (by simp at hn ⊢; omega)).map y
    · rw [if_neg hy, if_neg hy]; exact .inl ⟨rfl, rfl⟩
  | 0, x :: xs, ys1, hn => by simp at hn
  | n + 1, x :: xs, [], hn => by
    rw [List.nil_append, List.nil_append]
    by_cases hx : x.k = 3
    · rw [cmpS_drop hx, cmpS_drop hx]
      have ih := cmpS_swB hp hd ys2 n xs [] (by simp at hn ⊢; omega)
      exact ih.map x
    · have d2 : ¬ d.k = 2 := by omega
      have d1 : ¬ d.k = 1 := by omega
      rw [cmpS_xy x p, if_neg hx, if_pos hp]
      by_cases h1 : x.k = 1
      · simp only [cmpS_xy x d, if_neg hx, if_neg d2, if_pos h1]
        exact (oe_swap hp hd _).trans ((cmpS_put hp ys2 xs).symm.map d)
      · by_cases hc : x.c = d.c
        · simp only [cmpS_xy x d, if_neg hx, if_neg d2, if_neg h1, if_neg d1, if_pos hc]; exact (cmpS_put hp ys2 xs).symm
        · simp only [cmpS_xy x d, if_neg hx, if_neg d2, if_neg h1, if_neg d1, if_neg hc]; exact .inl ⟨rfl, rfl⟩
  | n + 1, x :: xs, y :: ys1, hn => by
    rw [List.cons_append, List.cons_append]
    by_cases hx : x.k = 3
    · rw [cmpS_drop hx, cmpS_drop hx]
      have ih := cmpS_swB hp hd ys2 n xs (y :: ys1) (by simp at hn ⊢; omega)
      rw [List.cons_append, List.cons_append] at ih
      exact ih.map x
    · rw [cmpS_xy, if_neg hx, cmpS_xy, if_neg hx]
      by_cases hy : y.k = 2
      · rw [if_pos hy, if_pos hy]
        exact (cmpS_swB hp hd ys2 n (x :: xs) ys1 (by simp at hn ⊢; omega)).map y
      · rw [if_neg hy, if_neg hy]
        have hl : ∃ m, xs.length + ys1.length = m ∧ m < n + 1 := ⟨_, rfl, by simp at hn; omega⟩
        obtain ⟨m, hm, hlt⟩ := hl
        have ih := cmpS_swB hp hd ys2 m xs ys1 hm
        by_cases h1 : x.k = 1
        · rw [if_pos h1, if_pos h1]; exact ih.map y
        · rw [if_neg h1, if_neg h1]
          by_cases h2 : y.k = 1
          · rw [if_pos h2, if_pos h2]; exact ih.map x
          · rw [if_neg h2, if_neg h2]
            by_cases hc : x.c = y.c
            · rw [if_pos hc, if_pos hc]; exact ih
            · rw [if_neg hc, if_neg hc]; exact .inl ⟨rfl, rfl⟩
termination_by n xs _ => (n, xs.length)
end Go.Proofs.YtkjioadmebkaoaaDoor.Doc1

namespace Go.Proofs.YtkjioadmebkaoaaDoor.Doc1

def sK (n : Nat) : List St := List.replicate n ⟨1, 0⟩
def sP (b : List UInt8) : List St := b.map (fun c => (⟨2, c⟩ : St))
def sD (b : List UInt8) : List St := b.map (fun c => (⟨3, c⟩ : St))
theorem stp_kp (n : Nat) : stp (kp n) = sK n := by simp [stp, kp, ba, sK]
theorem stp_pp (b : List UInt8) : stp (pp b) = sP b := by simp [stp, pp, ba, sP]
theorem stp_dp (b : List UInt8) : stp (dp b) = sD b := by simp [stp, dp, ba, sD]
theorem stL_app (a b : List Pt) : stL (a ++ b) = stL a ++ stL b := by simp [stL]
theorem stL_one (p : Pt) : stL [p] = stp p := by simp [stL]
theorem stL_cons (p : Pt) (l : List Pt) : stL (p :: l) = stp p ++ stL l := by simp [stL]
/-- Puts and drops beside one another have changed places. -/
inductive SwE : List St → List St → Prop
  | refl (a : List St) : SwE a a
  | swap (a b : List St) {p d : St} (hp : p.k = 2) (hd : d.k = 3) : SwE (a ++ p :: d :: b) (a ++ d :: p :: b)
  | trans {a b c : List St} : SwE a b → SwE b c → SwE a c
theorem SwE.left {a b : List St} (h : SwE a b) (x : List St) : SwE (x ++ a) (x ++ b) := by
  induction h with
  | refl => exact .refl _
  | swap a b hp hd => rw [← List.append_assoc, ← List.append_assoc]; exact .swap _ _ hp hd
  | trans _ _ i1 i2 => exact i1.trans i2
theorem SwE.right {a b : List St} (h : SwE a b) (x : List St) : SwE (a ++ x) (b ++ x) := by
  induction h with
  | refl => exact .refl _
  | swap a b hp hd => rw [List.append_assoc, List.append_assoc]; exact .swap _ _ hp hd
  | trans _ _ i1 i2 => exact i1.trans i2
theorem SwE.cmpA {a b : List St} (h : SwE a b) (ys : List St) : OE (cmpS a ys) (cmpS b ys) := by
  induction h with
  | refl => exact OE.refl _
  | swap a b hp hd => exact cmpS_swA hp hd b _ a ys rfl
  | trans _ _ i1 i2 => exact i1.trans i2
theorem SwE.cmpB {a b : List St} (h : SwE a b) (xs : List St) : OE (cmpS xs a) (cmpS xs b) := by
  induction h with
  | refl => exact OE.refl _
  | swap a b hp hd => exact cmpS_swB hp hd b _ xs a rfl
  | trans _ _ i1 i2 => exact i1.trans i2
theorem swE_put (c : UInt8) : ∀ b : List UInt8, SwE ((⟨2, c⟩ : St) :: sD b) (sD b ++ [⟨2, c⟩])
  | [] => .refl _
  | d :: b => by
    have h1 : SwE ((⟨2, c⟩ : St) :: sD (d :: b)) ((⟨3, d⟩ : St) :: (⟨2, c⟩ : St) :: sD b) := SwE.swap [] (sD b) rfl rfl
    exact h1.trans ((swE_put c b).left [(⟨3, d⟩ : St)])
/-- The steps of what is gathered. -/
def gst (G : Gs) : List St := stL G.parts ++ (sK G.keep ++ (sP G.put ++ sD G.drop))
theorem gst_out (G : Gs) : stL G.out = gst G := by
  rw [out_eq, stL_app, stL_app, stL_app]
  unfold gst
  congr 1
  congr 1
  · by_cases h : 0 < G.keep
    · rw [if_pos h, stL_one, stp_kp]
    · rw [if_neg h, show G.keep = 0 by omega]; rfl
  · congr 1
    · by_cases h : G.put = []
      · rw [if_pos h, h]; rfl
      · rw [if_neg h, stL_one, stp_pp]
    · by_cases h : G.drop = []
      · rw [if_pos h, h]; rfl
      · rw [if_neg h, stL_one, stp_dp]
theorem endC_st (G : Gs) : stL G.endC.parts = stL G.parts ++ (sP G.put ++ sD G.drop) := by
  unfold Gs.endC
  rw [stL_app, stL_app]
  congr 1
  congr 1
  · by_cases h : G.put = []
    · rw [if_pos h, h]; rfl
    · rw [if_neg h, stL_one, stp_pp]
  · by_cases h : G.drop = []
    · rw [if_pos h, h]; rfl
    · rw [if_neg h, stL_one, stp_dp]
theorem endK_st (G : Gs) : stL G.endK.parts = stL G.parts ++ sK G.keep := by
  unfold Gs.endK
  rw [stL_app]
  congr 1
  by_cases h : 0 < G.keep
  · rw [if_pos h, stL_one, stp_kp]
  · rw [if_neg h, show G.keep = 0 by omega]; rfl
/-- A step whose byte is told only where there is one. -/
def sz0 (x : St) : Prop := sk x ∧ (x.k = 1 → x.c = 0)
theorem st_eta (x : St) : x = ⟨x.k, x.c⟩ := rfl
theorem gst_add {G : Gs} (h : GI G) {x : St} (hx : sz0 x) : SwE (gst (G.add x)) (gst G ++ [x]) := by
  obtain ⟨hk, hc⟩ := hx
  rcases hk with k | k | k
  · have e : x = ⟨1, 0⟩ := by rw [st_eta x, k, hc k]
    subst e
    unfold Gs.add
    rw [if_pos rfl]
    have e1 : gst ⟨G.endC.parts, G.keep + 1, [], []⟩ = gst G ++ [⟨1, 0⟩] := by
      unfold gst
      rw [endC_st]
      by_cases h0 : 0 < G.keep
      · obtain ⟨h1, h2⟩ := h.a h0
        rw [h1, h2]
        simp [sK, sP, sD, List.replicate_succ']
      · rw [show G.keep = 0 by omega]
        simp [sK, sP, sD]
    rw [e1]; exact .refl _
  · have e : x = ⟨2, x.c⟩ := by rw [st_eta x, k]
    unfold Gs.add
    rw [if_neg (by omega), if_pos k]
    have e1 : gst ⟨G.endK.parts, 0, G.put ++ [x.c], G.drop⟩ = (stL G.parts ++ (sK G.keep ++ sP G.put)) ++ ((⟨2, x.c⟩ : St) :: sD G.drop) := by
      unfold gst
      rw [endK_st]
      simp [sK, sP, sD]
    have e2 : gst G ++ [x] = (stL G.parts ++ (sK G.keep ++ sP G.put)) ++ (sD G.drop ++ [⟨2, x.c⟩]) := by
      unfold gst
      rw [← e]
      simp
    rw [e1, e2]
    exact (swE_put x.c G.drop).left _
  · have e : x = ⟨3, x.c⟩ := by rw [st_eta x, k]
    unfold Gs.add
    rw [if_neg (by omega), if_neg (by omega), if_pos k]
    have e1 : gst ⟨G.endK.parts, 0, G.put, G.drop ++ [x.c]⟩ = gst G ++ [x] := by
      unfold gst
      rw [endK_st, e]
      simp [sK, sP, sD]
    rw [e1]; exact .refl _
theorem gst_gath : ∀ (l : List St) (G : Gs), GI G → (∀ x ∈ l, sz0 x) → SwE (gst (gath G l)) (gst G ++ l)
  | [], G, _, _ => by rw [List.append_nil]; exact .refl _
  | x :: l, G, h, hx => by
    have ih := gst_gath l (G.add x) (gi_add h x) (fun y hy => hx y (by simp [hy]))
    refine ih.trans ?_
    have := (gst_add h (hx x (by simp))).right l
    rw [List.append_assoc] at this
    exact this
theorem stp_sz0 {p : Pt} : ∀ x ∈ stp p, sz0 x := by
  intro x hx
  unfold stp at hx
  rcases List.mem_append.1 hx with h | h
  · rw [List.eq_of_mem_replicate h]; exact ⟨.inl rfl, fun _ => rfl⟩
  · rcases List.mem_append.1 h with h | h
    · obtain ⟨c, _, rfl⟩ := List.mem_map.1 h
      exact ⟨.inr (.inl rfl), fun e => by cases e⟩
    · obtain ⟨c, _, rfl⟩ := List.mem_map.1 h
      exact ⟨.inr (.inr rfl), fun e => by cases e⟩
theorem stL_sz0 {l : List Pt} : ∀ x ∈ stL l, sz0 x := by
  intro x hx
  obtain ⟨p, _, hp⟩ := List.mem_flatMap.1 hx
  exact stp_sz0 x hp
theorem norm_sw {l : List Pt} (h : ∀ p ∈ l, pk p ≠ 0) : SwE (stL (normL l)) (stL l) := by
  rw [norm_gath l h, gst_out]
  exact gst_gath (stL l) g0 gi0 stL_sz0
/-- Normal changes put together do as the changes themselves. -/
theorem cmp_norm {a b : List Pt} (ha : ∀ p ∈ a, pk p ≠ 0) (hb : ∀ p ∈ b, pk p ≠ 0) : OE (cmpS (stL (normL a)) (stL (normL b))) (cmpS (stL a) (stL b)) :=
  ((norm_sw ha).cmpA _).trans ((norm_sw hb).cmpB _)

/-- Whole pieces at once. -/
theorem map_map_cons (o : Option (List St)) (x : St) (b : List St) : (o.map (b ++ ·)).map (x :: ·) = o.map ((x :: b) ++ ·) := by cases o <;> rfl
theorem map_nil (o : Option (List St)) : o.map (([] : List St) ++ ·) = o := by cases o <;> rfl
theorem cmp_drop (ys : List St) (xs : List St) : ∀ b : List UInt8, cmpS (sD b ++ xs) ys = (cmpS xs ys).map (sD b ++ ·)
  | [] => (map_nil _).symm
  | c :: b => by
    show cmpS ((⟨3, c⟩ : St) :: (sD b ++ xs)) ys = _
    rw [cmpS_drop rfl, cmp_drop ys xs b, map_map_cons]; rfl
/-- Nothing is left, or what is left does not begin with a drop. -/
def noD (xs : List St) : Prop := ∀ x r, xs = x :: r → x.k ≠ 3
theorem cmp_put {xs : List St} (h : noD xs) (ys : List St) : ∀ b : List UInt8, cmpS xs (sP b ++ ys) = (cmpS xs ys).map (sP b ++ ·)
  | [] => (map_nil _).symm
  | c :: b => by
    show cmpS xs ((⟨2, c⟩ : St) :: (sP b ++ ys)) = _
    have e : cmpS xs ((⟨2, c⟩ : St) :: (sP b ++ ys)) = (cmpS xs (sP b ++ ys)).map ((⟨2, c⟩ : St) :: ·) := by
      cases xs with
      | nil => rw [cmpS_y, if_pos rfl]
      | cons x r => rw [cmpS_xy, if_neg (h x r rfl), if_pos rfl]
    rw [e, cmp_put h ys b, map_map_cons]; rfl
theorem cmp_keepK (xs ys : List St) : ∀ n : Nat, cmpS (sK n ++ xs) (sK n ++ ys) = (cmpS xs ys).map (sK n ++ ·)
  | 0 => (map_nil _).symm
  | n + 1 => by
    show cmpS ((⟨1, 0⟩ : St) :: (sK n ++ xs)) ((⟨1, 0⟩ : St) :: (sK n ++ ys)) = _
    rw [cmpS_xy, if_neg (by decide), if_neg (by decide), if_pos rfl, cmp_keepK xs ys n, map_map_cons]; rfl
theorem cmp_keepD (xs ys : List St) : ∀ b : List UInt8, cmpS (sK b.length ++ xs) (sD b ++ ys) = (cmpS xs ys).map (sD b ++ ·)
  | [] => (map_nil _).symm
  | c :: b => by
    show cmpS ((⟨1, 0⟩ : St) :: (sK b.length ++ xs)) ((⟨3, c⟩ : St) :: (sD b ++ ys)) = _
    rw [cmpS_xy, if_neg (by decide), if_neg (by show ¬ (3 : Nat) = 2; decide), if_pos rfl, cmp_keepD xs ys b, map_map_cons]; rfl
theorem cmp_putK (xs ys : List St) : ∀ b : List UInt8, cmpS (sP b ++ xs) (sK b.length ++ ys) = (cmpS xs ys).map (sP b ++ ·)
  | [] => (map_nil _).symm
  | c :: b => by
    show cmpS ((⟨2, c⟩ : St) :: (sP b ++ xs)) ((⟨1, 0⟩ : St) :: (sK b.length ++ ys)) = _
    rw [cmpS_xy, if_neg (by show ¬ (2 : Nat) = 3; decide), if_neg (by decide), if_neg (by show ¬ (2 : Nat) = 1; decide), if_pos rfl, cmp_putK xs ys b, map_map_cons]; rfl
theorem cmp_putD (xs ys : List St) : ∀ b d : List UInt8, b.length = d.length → cmpS (sP b ++ xs) (sD d ++ ys) = if b = d then cmpS xs ys else none
  | [], [], _ => rfl
  | [], _ :: _, h => by cases h
  | _ :: _, [], h => by cases h
  | c :: b, e :: d, h => by
    show cmpS ((⟨2, c⟩ : St) :: (sP b ++ xs)) ((⟨3, e⟩ : St) :: (sD d ++ ys)) = _
    rw [cmpS_xy, if_neg (by show ¬ (2 : Nat) = 3; decide), if_neg (by show ¬ (3 : Nat) = 2; decide), if_neg (by show ¬ (2 : Nat) = 1; decide), if_neg (by show ¬ (3 : Nat) = 1; decide)]
    show (if c = e then cmpS (sP b ++ xs) (sD d ++ ys) else none) = _
    rw [cmp_putD xs ys b d (by simpa using h)]
    by_cases hc : c = e
    · subst hc
      rw [if_pos rfl]
      by_cases hb : b = d
      · rw [if_pos hb, if_pos (by rw [hb])]
      · rw [if_neg hb, if_neg (fun c => hb (List.cons.inj c).2)]
    · rw [if_neg hc, if_neg (fun c => hc (List.cons.inj c).1)]
/-- What is told of two changes: they fit. -/
theorem cmp_fit : ∀ (n : Nat) (xs ys T : List St), xs.length + ys.length = n → (∀ x ∈ xs, sk x) → (∀ y ∈ ys, sk y) → cmpS xs ys = some T → cmk xs = ctk ys
  | n, [], [], T, _, _, _, _ => rfl
  | 0, [], y :: ys, T, hn, _, _, _ => by simp at hn
  | n + 1, [], y :: ys, T, hn, hx, hy, h => by
    rw [cmpS_y] at h
    by_cases k : y.k = 2
    · rw [if_pos k] at h
      obtain ⟨T', h', _⟩ := Option.map_eq_some_iff.1 h
      have ih := cmp_fit n [] ys T' (by simp at hn ⊢; omega) hx (fun z hz => hy z (by simp [hz])) h'
      rw [ih]
      unfold ctk
      rw [List.filter_cons_of_neg (by simp [k])]
    · rw [if_neg k] at h; cases h
  | 0, x :: xs, ys, T, hn, _, _, _ => by simp at hn
  | n + 1, x :: xs, ys, T, hn, hx, hy, h => by
    by_cases k3 : x.k = 3
    · rw [cmpS_drop k3] at h
      obtain ⟨T', h', _⟩ := Option.map_eq_some_iff.1 h
      have ih := cmp_fit n xs ys T' (by simp at hn ⊢; omega) (fun z hz => hx z (by simp [hz])) hy h'
      rw [← ih]
      unfold cmk
      rw [List.filter_cons_of_neg (by simp [k3])]
    · cases ys with
      | nil => rw [cmpS_x, if_neg k3] at h; cases h
      | cons y ys =>
        rw [cmpS_xy, if_neg k3] at h
        by_cases k2 : y.k = 2
        · rw [if_pos k2] at h
          obtain ⟨T', h', _⟩ := Option.map_eq_some_iff.1 h
          have ih := cmp_fit n (x :: xs) ys T' (by simp at hn ⊢; omega) hx (fun z hz => hy z (by simp [hz])) h'
          rw [ih]
          unfold ctk
          rw [List.filter_cons_of_neg (by simp [k2])]
        · rw [if_neg k2] at h
          have fin : ∀ T', cmpS xs ys = some T' → cmk (x :: xs) = ctk (y :: ys) := fun T' h' => by
            obtain ⟨m, hm, hlt⟩ : ∃ m, xs.length + ys.length = m ∧ m < n + 1 := ⟨_, rfl, by simp at hn; omega⟩
            have ih := cmp_fit m xs ys T' hm (fun z hz => hx z (by simp [hz])) (fun z hz => hy z (by simp [hz])) h'
            unfold cmk ctk at *
            rw [List.filter_cons_of_pos (by simp [k3]), List.filter_cons_of_pos (by simp [k2]), List.length_cons, List.length_cons, ih]
          by_cases k1 : x.k = 1
          · rw [if_pos k1] at h
            obtain ⟨T', h', _⟩ := Option.map_eq_some_iff.1 h
            exact fin T' h'
          · rw [if_neg k1] at h
            by_cases j1 : y.k = 1
            · rw [if_pos j1] at h
              obtain ⟨T', h', _⟩ := Option.map_eq_some_iff.1 h
              exact fin T' h'
            · rw [if_neg j1] at h
              by_cases hc : x.c = y.c
              · rw [if_pos hc] at h; exact fin T h
              · rw [if_neg hc] at h; cases h
termination_by n xs _ => (n, xs.length)
end Go.Proofs.YtkjioadmebkaoaaDoor.Doc1
