/- What two changes of one text come to beside one another: the plain mathematics. -/
import Derived.Test.YtbooongkbninhaaDoorComp4
namespace Go.Proofs.YtbooongkbninhaaDoor
open Doc1

/-- What is left of a step beside another one at the same byte. -/
def bhS (x y : St) : List St := if x.k = 0 then (if y.k = 2 then [⟨1, 0⟩] else []) else if x.k = 2 then [x] else if y.k = 1 then [x] else []
def trA (F : List (St × St)) : List St := F.flatMap (fun p => bhS p.1 p.2)
def trB (F : List (St × St)) : List St := F.flatMap (fun p => bhS p.2 p.1)
theorem trA_app (F G : List (St × St)) : trA (F ++ G) = trA F ++ trA G := by simp [trA]
theorem trB_app (F G : List (St × St)) : trB (F ++ G) = trB F ++ trB G := by simp [trB]
theorem trA_snoc (F : List (St × St)) (p : St × St) : trA (F ++ [p]) = trA F ++ bhS p.1 p.2 := by simp [trA]
theorem trB_snoc (F : List (St × St)) (p : St × St) : trB (F ++ [p]) = trB F ++ bhS p.2 p.1 := by simp [trB]
theorem bhS_len (x y : St) : (bhS x y).length ≤ 1 := by
  unfold bhS
  repeat' split
  all_goals simp
theorem trA_len : ∀ F : List (St × St), (trA F).length ≤ F.length
  | [] => by simp [trA]
  | p :: F => by
    have h1 := trA_len F
    have h2 := bhS_len p.1 p.2
    have : trA (p :: F) = bhS p.1 p.2 ++ trA F := by simp [trA]
    rw [this, List.length_append, List.length_cons]; omega
theorem trB_len : ∀ F : List (St × St), (trB F).length ≤ F.length
  | [] => by simp [trB]
  | p :: F => by
    have h1 := trB_len F
    have h2 := bhS_len p.2 p.1
    have : trB (p :: F) = bhS p.2 p.1 ++ trB F := by simp [trB]
    rw [this, List.length_append, List.length_cons]; omega
/-- The pairs, from the left. -/
def prR : List St → List St → List (St × St)
  | [], ys => ys.map (fun y => (z0s, y))
  | x :: xs, [] => if x.k = 2 then (x, z0s) :: prR xs [] else []
  | x :: xs, y :: ys => if x.k = 2 then (x, z0s) :: prR xs (y :: ys) else if y.k = 2 then (z0s, y) :: prR (x :: xs) ys else (x, y) :: prR xs ys
termination_by xs ys => xs.length + ys.length
theorem prR_put {x : St} (h : x.k = 2) (xs ys : List St) : prR (x :: xs) ys = (x, z0s) :: prR xs ys := by
  cases ys with
  | nil => rw [prR, if_pos h]
  | cons y ys => rw [prR, if_pos h]
theorem prR_nil (ys : List St) : prR [] ys = ys.map (fun y => (z0s, y)) := by rw [prR]
theorem prR_other {x y : St} (h : x.k ≠ 2) (hy : y.k = 2) (xs ys : List St) : prR (x :: xs) (y :: ys) = (z0s, y) :: prR (x :: xs) ys := by rw [prR, if_neg h, if_pos hy]
theorem prR_both {x y : St} (h : x.k ≠ 2) (hy : y.k ≠ 2) (xs ys : List St) : prR (x :: xs) (y :: ys) = (x, y) :: prR xs ys := by rw [prR, if_neg h, if_neg hy]
theorem prR_next {x : St} (h : x.k ≠ 2) (xs : List St) : ∀ (r : List St), nP r < r.length → prR (x :: xs) r = (r.take (nP r)).map (fun y => (z0s, y)) ++ (x, r.getD (nP r) z0s) :: prR xs (r.drop (nP r + 1))
  | [], hn => by simp [nP] at hn
  | y :: r, hn => by
    by_cases hy : putB y = true
    · have e : nP (y :: r) = nP r + 1 := by unfold nP; rw [List.takeWhile_cons, if_pos hy]; simp
      rw [e] at hn ⊢
      rw [prR_other h (of_decide_eq_true hy), prR_next h xs r (by simpa using hn)]
      simp
    · have e : nP (y :: r) = 0 := by unfold nP; rw [List.takeWhile_cons, if_neg hy]; rfl
      rw [e, prR_both h (fun c => hy (decide_eq_true c))]
      simp
theorem prF_at (ys : List St) : ∀ (post pre : List St), ctk (pre ++ post) ≤ ctk ys → prF (pre ++ post) ys = (prS ys pre).1 ++ prR post (ys.drop (prS ys pre).2)
  | [], pre, _ => by rw [List.append_nil, prR_nil]; rfl
  | x :: post, pre, hc => by
    have hi := prI_of (ys := ys) (pre := pre) (by rw [ctk_app] at hc; omega)
    have hc2 : ctk (pre ++ [x]) ≤ ctk ys := by
      have : pre ++ x :: post = (pre ++ [x]) ++ post := by simp
      rw [this, ctk_app] at hc; omega
    have ih := prF_at ys post (pre ++ [x]) (by simpa using hc)
    rw [List.append_assoc, List.singleton_append] at ih
    rw [ih, prS_snoc]
    by_cases hx : x.k = 2
    · unfold prT
      rw [if_pos hx, prR_put hx]
      simp
    · obtain ⟨h1, h2⟩ := pr_next hi.le hi.ct hx hc2
      unfold prT
      rw [if_neg hx, prR_next hx post (ys.drop (prS ys pre).2) (by rw [List.length_drop]; omega)]
      simp [List.drop_drop, Nat.add_assoc]
theorem prF_eq {xs ys : List St} (h : ctk xs = ctk ys) : prF xs ys = prR xs ys := by
  have := prF_at ys xs [] (by simp [h])
  simpa [prS] using this

/-- Runs. -/
theorem tr_putA : ∀ (b : List UInt8) (xs ys : List St), trA (prR (sP b ++ xs) ys) = sP b ++ trA (prR xs ys) ∧ trB (prR (sP b ++ xs) ys) = sK b.length ++ trB (prR xs ys)
  | [], xs, ys => by simp [sP, sK]
  | c :: b, xs, ys => by
    obtain ⟨h1, h2⟩ := tr_putA b xs ys
    have e : sP (c :: b) ++ xs = ⟨2, c⟩ :: (sP b ++ xs) := rfl
    rw [e, prR_put rfl]
    have a1 : ∀ F, trA ((⟨2, c⟩, z0s) :: F) = ⟨2, c⟩ :: trA F := fun F => by simp [trA, bhS]
    have a2 : ∀ F, trB ((⟨2, c⟩, z0s) :: F) = ⟨1, 0⟩ :: trB F := fun F => by simp [trB, bhS, z0s]
    rw [a1, a2, h1, h2]
    exact ⟨rfl, by simp [sK, List.replicate_succ]⟩
/-- No Put stands at the head. -/
def noP (xs : List St) : Prop := ∀ x r, xs = x :: r → x.k ≠ 2
theorem tr_putB : ∀ (b : List UInt8) (xs ys : List St), noP xs → trA (prR xs (sP b ++ ys)) = sK b.length ++ trA (prR xs ys) ∧ trB (prR xs (sP b ++ ys)) = sP b ++ trB (prR xs ys)
  | [], xs, ys, _ => by simp [sP, sK]
  | c :: b, xs, ys, hn => by
    obtain ⟨h1, h2⟩ := tr_putB b xs ys hn
    have e : sP (c :: b) ++ ys = ⟨2, c⟩ :: (sP b ++ ys) := rfl
    have a0 : prR xs (⟨2, c⟩ :: (sP b ++ ys)) = (z0s, ⟨2, c⟩) :: prR xs (sP b ++ ys) := by
      cases xs with
      | nil => rw [prR_nil, prR_nil]; rfl
      | cons x xs => exact prR_other (hn x xs rfl) rfl xs _
    have a1 : ∀ F, trA ((z0s, ⟨2, c⟩) :: F) = ⟨1, 0⟩ :: trA F := fun F => by simp [trA, bhS, z0s]
    have a2 : ∀ F, trB ((z0s, ⟨2, c⟩) :: F) = ⟨2, c⟩ :: trB F := fun F => by simp [trB, bhS]
    rw [e, a0, a1, a2, h1, h2]
    exact ⟨by simp [sK, List.replicate_succ], rfl⟩
theorem prR_zip : ∀ (u v xs ys : List St), u.length = v.length → (∀ x ∈ u, x.k ≠ 2) → (∀ x ∈ v, x.k ≠ 2) → prR (u ++ xs) (v ++ ys) = u.zip v ++ prR xs ys
  | [], [], xs, ys, _, _, _ => by simp
  | x :: u, [], _, _, h, _, _ => by simp at h
  | [], y :: v, _, _, h, _, _ => by simp at h
  | x :: u, y :: v, xs, ys, h, h1, h2 => by
    rw [List.cons_append, List.cons_append, prR_both (h1 x (by simp)) (h2 y (by simp)), prR_zip u v xs ys (by simpa using h) (fun z hz => h1 z (by simp [hz])) (fun z hz => h2 z (by simp [hz]))]
    rfl
theorem zipKK (n : Nat) : trA ((sK n).zip (sK n)) = sK n ∧ trB ((sK n).zip (sK n)) = sK n := by
  induction n with
  | zero => simp [sK, trA, trB]
  | succ n ih =>
    have e : sK (n + 1) = ⟨1, 0⟩ :: sK n := rfl
    have a1 : ∀ F, trA ((⟨1, 0⟩, ⟨1, 0⟩) :: F) = ⟨1, 0⟩ :: trA F := fun F => by simp [trA, bhS]
    have a2 : ∀ F, trB ((⟨1, 0⟩, ⟨1, 0⟩) :: F) = ⟨1, 0⟩ :: trB F := fun F => by simp [trB, bhS]
    rw [e, List.zip_cons_cons, a1, a2, ih.1, ih.2]
    exact ⟨rfl, rfl⟩
theorem zipKD : ∀ b : List UInt8, trA ((sK b.length).zip (sD b)) = [] ∧ trB ((sK b.length).zip (sD b)) = sD b
  | [] => by simp [sK, sD, trA, trB]
  | c :: b => by
    have e : sK (c :: b).length = ⟨1, 0⟩ :: sK b.length := rfl
    have e2 : sD (c :: b) = ⟨3, c⟩ :: sD b := rfl
    have a1 : ∀ F, trA ((⟨1, 0⟩, ⟨3, c⟩) :: F) = trA F := fun F => by simp [trA, bhS]
    have a2 : ∀ F, trB ((⟨1, 0⟩, ⟨3, c⟩) :: F) = ⟨3, c⟩ :: trB F := fun F => by simp [trB, bhS]
    rw [e, e2, List.zip_cons_cons, a1, a2, (zipKD b).1, (zipKD b).2]
    exact ⟨rfl, rfl⟩
theorem zipDK : ∀ b : List UInt8, trA ((sD b).zip (sK b.length)) = sD b ∧ trB ((sD b).zip (sK b.length)) = []
  | [] => by simp [sK, sD, trA, trB]
  | c :: b => by
    have e : sK (c :: b).length = ⟨1, 0⟩ :: sK b.length := rfl
    have e2 : sD (c :: b) = ⟨3, c⟩ :: sD b := rfl
    have a1 : ∀ F, trA ((⟨3, c⟩, ⟨1, 0⟩) :: F) = ⟨3, c⟩ :: trA F := fun F => by simp [trA, bhS]
    have a2 : ∀ F, trB ((⟨3, c⟩, ⟨1, 0⟩) :: F) = trB F := fun F => by simp [trB, bhS]
    rw [e, e2, List.zip_cons_cons, a1, a2, (zipDK b).1, (zipDK b).2]
    exact ⟨rfl, rfl⟩
theorem zipDD : ∀ b d : List UInt8, trA ((sD b).zip (sD d)) = [] ∧ trB ((sD b).zip (sD d)) = []
  | [], d => by simp [sD, trA, trB]
  | c :: b, [] => by simp [sD, trA, trB]
  | c :: b, f :: d => by
    have e : sD (c :: b) = ⟨3, c⟩ :: sD b := rfl
    have e2 : sD (f :: d) = ⟨3, f⟩ :: sD d := rfl
    have a1 : ∀ F, trA ((⟨3, c⟩, ⟨3, f⟩) :: F) = trA F := fun F => by simp [trA, bhS]
    have a2 : ∀ F, trB ((⟨3, c⟩, ⟨3, f⟩) :: F) = trB F := fun F => by simp [trB, bhS]
    rw [e, e2, List.zip_cons_cons, a1, a2]
    exact zipDD b d
theorem sK_k (n : Nat) : ∀ x ∈ sK n, x.k ≠ 2 := fun x hx => by rw [List.eq_of_mem_replicate hx]; simp
theorem sD_k (b : List UInt8) : ∀ x ∈ sD b, x.k ≠ 2 := fun x hx => by
  obtain ⟨c, -, rfl⟩ := List.mem_map.1 hx; simp
theorem sK_len (n : Nat) : (sK n).length = n := by simp [sK]
theorem sD_len (b : List UInt8) : (sD b).length = b.length := by simp [sD]
theorem tr_kk (n : Nat) (xs ys : List St) : trA (prR (sK n ++ xs) (sK n ++ ys)) = sK n ++ trA (prR xs ys) ∧ trB (prR (sK n ++ xs) (sK n ++ ys)) = sK n ++ trB (prR xs ys) := by
  rw [prR_zip _ _ _ _ rfl (sK_k n) (sK_k n), trA_app, trB_app, (zipKK n).1, (zipKK n).2]; exact ⟨rfl, rfl⟩
theorem tr_kd (b : List UInt8) (xs ys : List St) : trA (prR (sK b.length ++ xs) (sD b ++ ys)) = trA (prR xs ys) ∧ trB (prR (sK b.length ++ xs) (sD b ++ ys)) = sD b ++ trB (prR xs ys) := by
  rw [prR_zip _ _ _ _ (by rw [sK_len, sD_len]) (sK_k _) (sD_k _), trA_app, trB_app, (zipKD b).1, (zipKD b).2]; exact ⟨rfl, rfl⟩
theorem tr_dk (b : List UInt8) (xs ys : List St) : trA (prR (sD b ++ xs) (sK b.length ++ ys)) = sD b ++ trA (prR xs ys) ∧ trB (prR (sD b ++ xs) (sK b.length ++ ys)) = trB (prR xs ys) := by
  rw [prR_zip _ _ _ _ (by rw [sK_len, sD_len]) (sD_k _) (sK_k _), trA_app, trB_app, (zipDK b).1, (zipDK b).2]; exact ⟨rfl, rfl⟩
theorem tr_dd (b d : List UInt8) (h : b.length = d.length) (xs ys : List St) : trA (prR (sD b ++ xs) (sD d ++ ys)) = trA (prR xs ys) ∧ trB (prR (sD b ++ xs) (sD d ++ ys)) = trB (prR xs ys) := by
  rw [prR_zip _ _ _ _ (by rw [sD_len, sD_len, h]) (sD_k _) (sD_k _), trA_app, trB_app, (zipDD b d).1, (zipDD b d).2]; exact ⟨rfl, rfl⟩
end Go.Proofs.YtbooongkbninhaaDoor
