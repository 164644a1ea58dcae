/- The contract of impl.ClashesOf. -/
import Derived.Test.YtojlnnlcbpjdlabDoorFoot4
import Derived.Deep.Cut
import Derived.Deep.CutRange
import Derived.Deep.RegionHeld3
set_option linter.unusedVariables false
namespace Go.Proofs.YtojlnnlcbpjdlabDoor
open Go.RowKit Go.Shelf
open Doc1

/-- How many clashes the program counts. -/
def clsN (la lb : List Pt) : Nat := wthn (ftL (norO lb)).1 (ftL (norO la)).2 + wthn (ftL (norO la)).1 (ftL (norO lb)).2 + (prF (stL la) (stL lb)).countP bothB
theorem ft_places (l : List Pt) : ∀ t ∈ (ftL l).2, t ≤ (ftL l).1.length := by
  suffices H : ∀ (l : List Pt) (s : List Bool × List Nat), (∀ t ∈ s.2, t ≤ s.1.length) → ∀ t ∈ (l.foldl ftS s).2, t ≤ (l.foldl ftS s).1.length from H l ([], []) (fun t h => by cases h)
  intro l
  induction l with
  | nil => intro s h; exact h
  | cons p l ih =>
    intro s h
    refine ih (ftS s p) (fun t ht => ?_)
    have hl : (ftS s p).1.length = s.1.length + (fdP p).length := by simp [ftS]
    unfold ftS at ht
    simp only at ht
    split at ht
    · rcases List.mem_append.1 ht with c | c
      · have := h t c; omega
      · have := List.mem_singleton.1 c; omega
    · have := h t ht; omega
theorem ft_bounds {l : List Pt} (hg : goodO l = true) : (ftL (norO l)).1.length ≤ 18000 ∧ (ftL (norO l)).2.length ≤ 60 ∧ ∀ t ∈ (ftL (norO l)).2, t ≤ 30000 := by
  have hn : goodO (norO l) = true := by
    unfold norO; rw [if_pos hg]
    have := normG hg
    rw [← this.2]; exact this.1
  have h1 := ft_len (norO l) (goodO_pk hn)
  have h2 := (goodO_le hn).1
  exact ⟨by omega, by omega, fun t ht => by have := ft_places _ t ht; omega⟩

set_option maxRecDepth 100000 in
set_option maxHeartbeats 4000000 in
theorem clashesI_bad {w : World} {ga ca gb cb : Nat} {la lb : List Pt} (ha : Pin w (some ⟨ga, 0, none⟩) ga ca la) (hb : Pin w (some ⟨gb, 0, none⟩) gb cb lb) (hT : Tab w) (hs : samA la lb = false) :
    Calls Tryd.prog 7 #[.slice (some ⟨ga, 0, none⟩) la.length ca, .slice (some ⟨gb, 0, none⟩) lb.length cb] w fun e w' => e = .returned (.tuple #[.int .i64 0, .bool false]) ∧ Below w.heap.size w w' := by
  have S := hide (sameI ha hb hT)
  rw [hs] at S
  generalize samK la lb = sk at *
  clear ha hb hT hs
  go_enter Tryd.func7, Tryd.ntmps7
  go_wp2_with fail
  refine S.out.mono ?_
  rintro e w1 ⟨rfl, hb1⟩
  go_wp2
  go_ret2
  exact ⟨rfl, hb1⟩

set_option maxRecDepth 100000 in
set_option maxHeartbeats 4000000 in
theorem clashesI {w : World} {ga ca gb cb : Nat} {la lb : List Pt} (ha : Pin w (some ⟨ga, 0, none⟩) ga ca la) (hb : Pin w (some ⟨gb, 0, none⟩) gb cb lb) (hT : Tab w) (hs : samA la lb = true) :
    Calls Tryd.prog 7 #[.slice (some ⟨ga, 0, none⟩) la.length ca, .slice (some ⟨gb, 0, none⟩) lb.length cb] w fun e w' => e = .returned (.tuple #[.int .i64 (clsN la lb : Int), .bool true]) ∧ Below w.heap.size w w' := by
  have S := hide (sameI ha hb hT)
  have hk : samK la lb = true := by unfold samA at hs; simp only [Bool.and_eq_true] at hs; exact hs.1
  rw [hs, hk] at S
  unfold samK at hk
  simp only [Bool.and_eq_true, decide_eq_true_eq] at hk
  obtain ⟨g1, g2, ht⟩ := hk
  have hct : ctk (stL la) = ctk (stL lb) := by
    have h1 := (stL_sums la (goodO_pk g1)).1
    have h2 := (stL_sums lb (goodO_pk g2)).1
    omega
  have hln := prF_len hct
  have s1 := st_len g1
  have s2 := st_len g2
  have P := hide (fun w' (h : Below w.heap.size w w') => pairsI_good (ha.later h) (hb.later h) (hT.below h) g1 g2 ht)
  have FA := hide (fun w' (h : Below w.heap.size w w') => footprintI (ha.later h) (hT.below h) g1)
  have FB := hide (fun w' (h : Below w.heap.size w w') => footprintI (hb.later h) (hT.below h) g2)
  obtain ⟨x1, x2, x3⟩ := ft_bounds g1
  obtain ⟨y1, y2, y3⟩ := ft_bounds g2
  unfold clsN
  have hF : (prF (stL la) (stL lb)).length ≤ 2000 := by omega
  have U := hide (fun p w' => bothDrop_any p w')
  clear ha hb hT hs g1 g2 ht hct hln s1 s2
  generalize prF (stL la) (stL lb) = F at *
  generalize (ftL (norO la)).1 = dA at *
  generalize (ftL (norO la)).2 = pA at *
  generalize (ftL (norO lb)).1 = dB at *
  generalize (ftL (norO lb)).2 = pB at *
  have hm1 : wthn dB pA ≤ 60 := by unfold wthn; exact Nat.le_trans List.countP_le_length x2
  have hm2 : wthn dA pB ≤ 60 := by unfold wthn; exact Nat.le_trans List.countP_le_length y2
  obtain ⟨m1, z1⟩ : ∃ m1, wthn dB pA = m1 := ⟨_, rfl⟩
  obtain ⟨m2, z2⟩ : ∃ m2, wthn dA pB = m2 := ⟨_, rfl⟩
  rw [z1] at hm1 ⊢
  rw [z2] at hm2 ⊢
  go_enter Tryd.func7, Tryd.ntmps7
  go_wp2_with fail
  refine S.out.mono ?_
  rintro e w1 ⟨rfl, hb1⟩
  go_wp2_with fail
  refine (P.out w1 hb1).mono ?_
  rintro e w2 ⟨v, rfl, ho, hb'⟩
  have hb2 := hb1.trans (hb'.mono hb1.size)
  obtain ⟨a0, c0, rfl, -, -⟩ := own_shp ho
  clear S P hb'
  go_wp2_with fail
  refine (FA.out w2 hb2).mono ?_
  rintro e w3 ⟨vdA, vpA, rfl, odA, opA, hb'⟩
  have ho3 := own_below ho hb'
  have hb3 := hb2.trans (hb'.mono hb2.size)
  clear ho hb'
  go_wp2_with fail
  refine (FB.out w3 hb3).mono ?_
  rintro e w4 ⟨vdB, vpB, rfl, odB, opB, hb'⟩
  have ho4 := own_below ho3 hb'
  have odA4 := own_below odA hb'
  have opA4 := own_below opA hb'
  have hb4 := hb3.trans (hb'.mono hb3.size)
  clear ho3 odA opA hb' FA FB hb1 hb2 hb3
  obtain ⟨aA, cA, rfl, -, -⟩ := own_shp odA4
  obtain ⟨apA, cpA, rfl, -, -⟩ := own_shp opA4
  obtain ⟨aB, cB, rfl, -, -⟩ := own_shp odB
  obtain ⟨apB, cpB, rfl, -, -⟩ := own_shp opB
  obtain ⟨W0, hW0⟩ : ∃ W0, (w4.alloc (.cells #[.slice aA dA.length cA, .slice apA pA.length cpA] 47)).alloc (.cells #[.slice aB dB.length cB, .slice apB pB.length cpB] 47) = W0 := ⟨_, rfl⟩
  have hq : Below w4.heap.size w4 W0 := by rw [← hW0]; exact ((Below.refl _ _).alloc (Nat.le_refl _) _).alloc (by simp) _
  have hz : W0.heap.size = w4.heap.size + 2 := by rw [← hW0]; simp
  have hx : W0.heap[w4.heap.size]? = some (.cells #[.slice aA dA.length cA, .slice apA pA.length cpA] 47) := by rw [← hW0]; exact heap_alloc2_old _ _ _
  have hy : W0.heap[w4.heap.size + 1]? = some (.cells #[.slice aB dB.length cB, .slice apB pB.length cpB] 47) := by rw [← hW0]; exact heap_alloc2_new _ _ _
  have CE : Hid (∀ w', Below W0.heap.size W0 w' → (w'.cell? ⟨w4.heap.size, 0, none⟩ = some (.slice aA dA.length cA) ∧ w'.cell? ⟨w4.heap.size, 1, none⟩ = some (.slice apA pA.length cpA)) ∧ w'.cell? ⟨w4.heap.size + 1, 0, none⟩ = some (.slice aB dB.length cB) ∧ w'.cell? ⟨w4.heap.size + 1, 1, none⟩ = some (.slice apB pB.length cpB)) := hide (fun w' h => by
    have e1 := (h.block w4.heap.size (by omega)).trans hx
    have e2 := (h.block (w4.heap.size + 1) (by omega)).trans hy
    refine ⟨⟨?_, ?_⟩, ?_, ?_⟩
    · rw [cell_of_row _ _ _ _ _ _ e1]; rfl
    · rw [cell_of_row _ _ _ _ _ _ e1]; rfl
    · rw [cell_of_row _ _ _ _ _ _ e2]; rfl
    · rw [cell_of_row _ _ _ _ _ _ e2]; rfl)
  have PA := hide (fun w' (h : Below W0.heap.size W0 w') => putsWithinI (own_below opA4 (hq.trans (h.mono (by omega)))) (own_below odB (hq.trans (h.mono (by omega)))) (vx := .slice aA dA.length cA) (vy := .slice apB pB.length cpB) ⟨_, _, _, rfl⟩ ⟨_, _, _, rfl⟩ (by omega) (by omega) x3)
  have PB := hide (fun w' (h : Below W0.heap.size W0 w') => putsWithinI (own_below opB (hq.trans (h.mono (by omega)))) (own_below odA4 (hq.trans (h.mono (by omega)))) (vx := .slice aB dB.length cB) (vy := .slice apA pA.length cpA) ⟨_, _, _, rfl⟩ ⟨_, _, _, rfl⟩ (by omega) (by omega) y3)
  have HO := hide (own_below ho4 hq)
  have hb5 := hb4.trans (hq.mono hb4.size)
  clear x3 y3 odA4 opA4 odB opB ho4 hx hy hq hb4
  rw [z1] at PA
  rw [z2] at PB
  have hwr : IntKind.i64.wrap ((m1 : Int) + (m2 : Int)) = ((m1 + m2 : Nat) : Int) := by rw [IntKind.wrap_i64]; omega
  go_upto_region 6 with fail
  go_cut [12] from 33 to 39 (fun v wx => v = .int .i64 ((m1 + m2 : Nat) : Int) ∧ Below W0.heap.size W0 wx)
  case first =>
    go_region_held3 (fun w' => (w'.cell? ⟨w4.heap.size, 0, none⟩ = some (.slice aA dA.length cA) ∧ w'.cell? ⟨w4.heap.size, 1, none⟩ = some (.slice apA pA.length cpA)) ∧ w'.cell? ⟨w4.heap.size + 1, 0, none⟩ = some (.slice aB dB.length cB) ∧ w'.cell? ⟨w4.heap.size + 1, 1, none⟩ = some (.slice apB pB.length cpB))
      (first | assumption | exact CE.out _ hbx2 | exact CE.out _ hbx1 | exact CE.out _ (Below.refl _ _).drew | exact CE.out _ (Below.refl _ _))
      (first
        | (go_at_call 18; refine (PB.out _ hbx1).mono ?_; rintro e wb ⟨rfl, hbb⟩; have hbx2 : Below W0.heap.size W0 wb := hbx1.trans (hbb.mono hbx1.size))
        | (go_at_call 18; refine (PA.out _ (Below.refl _ _).drew).mono ?_; rintro e wa ⟨rfl, hba⟩; have hbx1 : Below W0.heap.size W0 wa := (Below.refl _ _).drew.trans hba))
    all_goals
      go_wp2_with fail
      go_meet
      case rel => exact ⟨by first | rw [hwr] | simp, hbx2⟩
  case rest =>
  obtain ⟨rfl, hbc⟩ := hcut
  have hbw := hb5.trans (hbc.mono hb5.size)
  have HOc := hide (own_below HO.out (hbc.mono (by omega)))
  clear CE PA PB hW0 HO
  go_wp2
  go_loopw [12, 42] (fun v i wr => ∃ k : Nat, k ≤ F.length ∧ i = .int .i64 k ∧ v = .int .i64 ((m1 + m2 + (F.take k).countP bothB : Nat) : Int) ∧ Below wc.heap.size wc wr) (fun _ i _ => F.length - (intOf i).toNat)
  case atStart => exact ⟨0, by omega, rfl, by simp, Below.refl _ _⟩
  case round =>
    obtain ⟨k, hk, rfl, rfl, hbr⟩ := hrel
    by_cases hlt : k < F.length
    · obtain ⟨g, cp, ev, -, -, -, hg, hcl, -⟩ := own_cat (own_below HOc.out hbr) (by omega)
      cases ev
      obtain ⟨p0, p1, p2, p3⟩ := prC_at F k hlt
      have q0 := hcl _ _ p0
      have q1 := hcl _ _ p1
      have q2 := hcl _ _ p2
      have q3 := hcl _ _ p3
      have U1 := U.out F[k]
      unfold prA at U1
      have hst : (F.take (k + 1)).countP bothB = (F.take k).countP bothB + (if bothB F[k] = true then 1 else 0) := by rw [List.take_succ_eq_append_getElem hlt, List.countP_append, List.countP_singleton]
      have hle : (F.take k).countP bothB ≤ 2000 := Nat.le_trans List.countP_le_length (by simp; omega)
      clear hcl p0 p1 p2 p3
      have HST := hide hst
      clear hst
      generalize (F.take k).countP bothB = c at *
      cases hu : bothB F[k] with
      | true =>
        simp only [hu] at U1
        rw [hu] at HST
        have U2 := hide U1
        clear U1 hu
        go_wp2_with fail
        refine (U2.out _).mono ?_
        rintro e w7 ⟨rfl, hb7⟩
        have hbz : Below wc.heap.size wc w7 := (hbr.alloc hbr.size _).trans (hb7.mono (by simp; have := hbr.size; omega))
        clear hb7
        go_wp2
        go_roundw
        case rel => exact ⟨k + 1, by omega, by go_num, by rw [HST.out]; simp; omega, hbz⟩
        case measure => simp [intOf]; omega
      | false =>
        simp only [hu] at U1
        rw [hu] at HST
        have U2 := hide U1
        clear U1 hu
        go_wp2_with fail
        refine (U2.out _).mono ?_
        rintro e w7 ⟨rfl, hb7⟩
        have hbz : Below wc.heap.size wc w7 := (hbr.alloc hbr.size _).trans (hb7.mono (by simp; have := hbr.size; omega))
        clear hb7
        go_wp2
        go_roundw
        case rel => exact ⟨k + 1, by omega, by go_num, by rw [HST.out]; simp, hbz⟩
        case measure => simp [intOf]; omega
    · obtain rfl : k = F.length := by omega
      rw [List.take_length]
      have hbz := hbw.trans (hbr.mono hbw.size)
      go_wp2
      go_ret2
      exact ⟨rfl, hbz⟩
end Go.Proofs.YtojlnnlcbpjdlabDoor
