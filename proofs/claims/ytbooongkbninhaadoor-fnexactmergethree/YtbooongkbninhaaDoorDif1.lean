/- The least change, byte by byte: its steps, and that their parts put together are their gathering. -/
import Derived.Test.YtbooongkbninhaaDoorOpsM
import Derived.Test.YtbooongkbninhaaDoorLcM
set_option linter.unusedVariables false
namespace Go.Proofs.YtbooongkbninhaaDoor
open Go
open Doc1

/-- The steps of the least change from a to b. -/
def dst : List UInt8 → List UInt8 → List St
  | [], [] => []
  | [], y :: b => ⟨2, y⟩ :: dst [] b
  | x :: a, [] => ⟨3, x⟩ :: dst a []
  | x :: a, y :: b => if x = y then ⟨1, 0⟩ :: dst a b else if lc a (y :: b) = lc (x :: a) (y :: b) then ⟨3, x⟩ :: dst a (y :: b) else ⟨2, y⟩ :: dst (x :: a) b
termination_by a b => a.length + b.length
theorem dst_nn : dst [] [] = [] := by rw [dst]
theorem dst_nc (y : UInt8) (b : List UInt8) : dst [] (y :: b) = ⟨2, y⟩ :: dst [] b := by rw [dst]
theorem dst_cn (x : UInt8) (a : List UInt8) : dst (x :: a) [] = ⟨3, x⟩ :: dst a [] := by rw [dst]
theorem dst_cc (x y : UInt8) (a b : List UInt8) : dst (x :: a) (y :: b) = if x = y then ⟨1, 0⟩ :: dst a b else if lc a (y :: b) = lc (x :: a) (y :: b) then ⟨3, x⟩ :: dst a (y :: b) else ⟨2, y⟩ :: dst (x :: a) b := by rw [dst]
theorem dst_len (n : Nat) : ∀ a b : List UInt8, a.length + b.length ≤ n → (dst a b).length ≤ a.length + b.length := by
  induction n with
  | zero =>
    intro a b h
    have ha : a = [] := List.eq_nil_of_length_eq_zero (by omega)
    have hb : b = [] := List.eq_nil_of_length_eq_zero (by omega)
    subst ha; subst hb; rw [dst_nn]; simp
  | succ n ih =>
    intro a b h
    cases a with
    | nil =>
      cases b with
      | nil => rw [dst_nn]; simp
      | cons y b =>
        have := ih [] b (by simp at h ⊢; omega)
        rw [dst_nc]; simp at this ⊢; omega
    | cons x a =>
      cases b with
      | nil =>
        have := ih a [] (by simp at h ⊢; omega)
        rw [dst_cn]; simp at this ⊢; omega
      | cons y b =>
        simp only [List.length_cons] at h
        have h1 := ih a b (by omega)
        have h2 := ih a (y :: b) (by simp; omega)
        have h3 := ih (x :: a) b (by simp; omega)
        simp only [List.length_cons] at h2 h3 ⊢
        rw [dst_cc]
        split
        · simp only [List.length_cons]; omega
        · split
          · simp only [List.length_cons]; omega
          · simp only [List.length_cons]; omega
/-- Each step is one of a good change, where all bytes are good ones. -/
theorem dst_so (n : Nat) : ∀ a b : List UInt8, a.length + b.length ≤ n → (∀ c ∈ a, okC c = true) → (∀ c ∈ b, okC c = true) → ∀ x ∈ dst a b, so x ∧ (x.k = 1 → x.c = 0) := by
  induction n with
  | zero =>
    intro a b h _ _
    have ha : a = [] := List.eq_nil_of_length_eq_zero (by omega)
    have hb : b = [] := List.eq_nil_of_length_eq_zero (by omega)
    subst ha; subst hb; rw [dst_nn]; intro x hx; cases hx
  | succ n ih =>
    intro a b h ha hb s hs
    have put : ∀ y, okC y = true → so ⟨2, y⟩ ∧ ((⟨2, y⟩ : St).k = 1 → (⟨2, y⟩ : St).c = 0) := fun y hy => ⟨⟨.inr (.inl rfl), fun _ => hy⟩, fun c => by cases c⟩
    have drp : ∀ y, okC y = true → so ⟨3, y⟩ ∧ ((⟨3, y⟩ : St).k = 1 → (⟨3, y⟩ : St).c = 0) := fun y hy => ⟨⟨.inr (.inr rfl), fun _ => hy⟩, fun c => by cases c⟩
    have kee : so ⟨1, 0⟩ ∧ ((⟨1, 0⟩ : St).k = 1 → (⟨1, 0⟩ : St).c = 0) := ⟨⟨.inl rfl, fun c => absurd rfl c⟩, fun _ => rfl⟩
    cases a with
    | nil =>
      cases b with
      | nil => rw [dst_nn] at hs; cases hs
      | cons y b =>
        rw [dst_nc] at hs
        rcases List.mem_cons.1 hs with rfl | hs
        · exact put y (hb y (by simp))
        · exact ih [] b (by simp at h ⊢; omega) (fun c hc => by cases hc) (fun c hc => hb c (by simp [hc])) s hs
    | cons x a =>
      have ha' : ∀ c ∈ a, okC c = true := fun c hc => ha c (by simp [hc])
      cases b with
      | nil =>
        rw [dst_cn] at hs
        rcases List.mem_cons.1 hs with rfl | hs
        · exact drp x (ha x (by simp))
        · exact ih a [] (by simp at h ⊢; omega) ha' (fun c hc => by cases hc) s hs
      | cons y b =>
        have hb' : ∀ c ∈ b, okC c = true := fun c hc => hb c (by simp [hc])
        simp only [List.length_cons] at h
        rw [dst_cc] at hs
        split at hs
        · rcases List.mem_cons.1 hs with rfl | hs
          · exact kee
          · exact ih a b (by omega) ha' hb' s hs
        · split at hs
          · rcases List.mem_cons.1 hs with rfl | hs
            · exact drp x (ha x (by simp))
            · exact ih a (y :: b) (by simp; omega) ha' hb s hs
          · rcases List.mem_cons.1 hs with rfl | hs
            · exact put y (hb y (by simp))
            · exact ih (x :: a) b (by simp; omega) ha hb' s hs

/-- A step as a part of one byte. -/
def stP (x : St) : Pt := if x.k = 1 then kp 1 else if x.k = 2 then pp [x.c] else dp [x.c]
theorem stp_P {x : St} (h : so x ∧ (x.k = 1 → x.c = 0)) : stp (stP x) = [x] := by
  obtain ⟨⟨hk, _⟩, h0⟩ := h
  obtain ⟨k, c⟩ := x
  rcases hk with e | e | e
  · simp only at e h0
    subst e
    rw [h0 rfl]
    simp [stP, stp, kp, ba]
  · simp only at e
    subst e
    simp [stP, stp, pp, ba]
  · simp only at e
    subst e
    simp [stP, stp, dp, ba]
theorem stL_P (l : List St) (h : ∀ x ∈ l, so x ∧ (x.k = 1 → x.c = 0)) : stL (l.map stP) = l := by
  unfold stL
  induction l with
  | nil => rfl
  | cons x l ih =>
    rw [List.map_cons, List.flatMap_cons, stp_P (h x (by simp)), ih (fun y hy => h y (by simp [hy]))]
    rfl
theorem good_one {c : UInt8} (h : okC c = true) : good [c] = true := by simp [good, allOk, h]
theorem pk_P {x : St} (h : so x) : pk (stP x) ≠ 0 := by
  obtain ⟨k, c⟩ := x
  obtain ⟨hk, hc⟩ := h
  rcases hk with e | e | e
  · simp only at e
    subst e
    simp [stP, pk, kp, ba]
  · simp only at e
    subst e
    have := good_one (hc (by simp))
    simp [stP, pk, pp, ba, this]
  · simp only at e
    subst e
    have := good_one (hc (by simp))
    simp [stP, pk, dp, ba, this]
/-- The parts put together are what is gathered. -/
theorem norm_P (l : List St) (h : ∀ x ∈ l, so x ∧ (x.k = 1 → x.c = 0)) : normL (l.map stP) = (gath g0 l).out := by
  rw [norm_gath _ (fun p hp => by
    obtain ⟨x, hx, rfl⟩ := List.mem_map.1 hp
    exact pk_P (h x hx).1), stL_P l h]
end Go.Proofs.YtbooongkbninhaaDoor
