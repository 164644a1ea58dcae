/- The contracts of impl.SameTexts and of the model's. -/
import Derived.Test.YtojlnnlcbpjdlabDoorPairsW2
import Derived.Test.YtojlnnlcbpjdlabDoorMoveSZ
namespace Go.Proofs.YtojlnnlcbpjdlabDoor
open Go.RowKit Go.Shelf
open Doc1

theorem ret_bb {a b c d : Bool} (h : a = c) (h2 : b = d) : Ending.returned (.tuple #[.bool a, .bool b]) = .returned (.tuple #[.bool c, .bool d]) := by rw [h, h2]
/-- Whether both changes are of one text. -/
def samK (la lb : List Pt) : Bool := goodO la && (goodO lb && decide (tkL la = tkL lb))

set_option maxRecDepth 100000 in
set_option maxHeartbeats 2000000 in
theorem pairsI_bad {w : World} {ga ca gb cb : Nat} {la lb : List Pt} (ha : Pin w (some ⟨ga, 0, none⟩) ga ca la) (hb : Pin w (some ⟨gb, 0, none⟩) gb cb lb) (hT : Tab w) (hk : samK la lb = false) :
    Calls Tryd.prog 16 #[.slice (some ⟨ga, 0, none⟩) la.length ca, .slice (some ⟨gb, 0, none⟩) lb.length cb] w fun e w' => e = .returned (.tuple #[.slice none 0 0, .bool false]) ∧ Below w.heap.size w w' := by
  have SA := hide (fun w' (h : Below w.heap.size w w') => sizesI_any (ha.later h) (hT.below h))
  have SB := hide (fun w' (h : Below w.heap.size w w') => sizesI_any (hb.later h) (hT.below h))
  have hb0 := Below.refl w.heap.size w
  clear ha hb hT
  unfold samK at hk
  cases h1 : goodO la with
  | false =>
    rw [h1] at SA
    clear hk h1
    generalize goodO lb = gB at *
    go_enter Tryd.func16, Tryd.ntmps16
    go_wp2_with fail
    refine (SA.out _ hb0).mono ?_
    rintro e w1 ⟨rfl, hb1⟩
    go_wp2_with fail
    refine (SB.out _ hb1).mono ?_
    rintro e w2 ⟨rfl, hb'⟩
    have hb2 := hb1.trans (hb'.mono hb1.size)
    clear hb' hb1 SA SB hb0
    go_wp2
    go_ret2
    exact ⟨rfl, hb2⟩
  | true =>
    rw [h1, Bool.true_and] at hk
    rw [h1] at SA
    cases h2 : goodO lb with
    | false =>
      rw [h2] at SB
      clear hk h1 h2
      go_enter Tryd.func16, Tryd.ntmps16
      go_wp2_with fail
      refine (SA.out _ hb0).mono ?_
      rintro e w1 ⟨rfl, hb1⟩
      go_wp2_with fail
      refine (SB.out _ hb1).mono ?_
      rintro e w2 ⟨rfl, hb'⟩
      have hb2 := hb1.trans (hb'.mono hb1.size)
      clear hb' hb1 SA SB hb0
      go_wp2
      go_ret2
      exact ⟨rfl, hb2⟩
    | true =>
      rw [h2, Bool.true_and] at hk
      rw [h2] at SB
      have hne : (szT la != szT lb) = true := by
        have e1 : szT la = tkL la := by unfold szT; rw [h1]; rfl
        have e2 : szT lb = tkL lb := by unfold szT; rw [h2]; rfl
        rw [e1, e2]
        simpa using of_decide_eq_false hk
      clear hk h1 h2
      generalize szT la = x at *
      generalize szT lb = y at *
      go_enter Tryd.func16, Tryd.ntmps16
      go_wp2_with fail
      refine (SA.out _ hb0).mono ?_
      rintro e w1 ⟨rfl, hb1⟩
      go_wp2_with fail
      refine (SB.out _ hb1).mono ?_
      rintro e w2 ⟨rfl, hb'⟩
      have hb2 := hb1.trans (hb'.mono hb1.size)
      clear hb' hb1 SA SB hb0
      go_wp2
      go_ret2
      exact ⟨rfl, hb2⟩

def prA (p : St × St) : Value := .agg #[.int .i64 (p.1.k : Int), .int .u8 (p.1.c.toNat : Int), .int .i64 (p.2.k : Int), .int .u8 (p.2.c.toNat : Int)]
def bothB (p : St × St) : Bool := decide (p.1.k = 3) && decide (p.2.k = 3)

set_option maxHeartbeats 1000000 in
theorem bothDrop_any (p : St × St) (w : World) :
    Calls Tryd.prog 19 #[prA p] w fun e w' => e = .returned (.bool (bothB p)) ∧ Below w.heap.size w w' := by
  unfold prA bothB
  have hw := (Below.refl w.heap.size w).alloc (Nat.le_refl _)
  by_cases h1 : p.1.k = 3
  · have e1 : ((p.1.k : Int) == 3) = true := by rw [h1]; rfl
    rw [decide_eq_true h1, Bool.true_and]
    by_cases h2 : p.2.k = 3
    · have e2 : ((p.2.k : Int) == 3) = true := by rw [h2]; rfl
      rw [decide_eq_true h2]
      clear h1 h2
      go_enter Tryd.func19, Tryd.ntmps19
      go_wp2
      go_ret
      exact ⟨rfl, hw _⟩
    · have e2 : ((p.2.k : Int) == 3) = false := by rw [beq_eq_false_iff_ne]; omega
      rw [decide_eq_false h2]
      clear h1 h2
      go_enter Tryd.func19, Tryd.ntmps19
      go_wp2
      go_ret
      exact ⟨rfl, hw _⟩
  · have e1 : ((p.1.k : Int) == 3) = false := by rw [beq_eq_false_iff_ne]; omega
    rw [decide_eq_false h1, Bool.false_and]
    clear h1
    go_enter Tryd.func19, Tryd.ntmps19
    go_wp2
    go_ret
    exact ⟨rfl, hw _⟩

set_option maxHeartbeats 1000000 in
theorem dropsUnlike_any (p : St × St) (w : World) :
    Calls Tryd.prog 26 #[prA p] w fun e w' => e = .returned (.bool (unl p)) ∧ Below w.heap.size w w' := by
  have B := hide (fun w' => bothDrop_any p w')
  have hu : unl p = (bothB p && decide (p.1.c ≠ p.2.c)) := by unfold unl bothB; rw [Bool.and_assoc]
  rw [hu]
  clear hu
  unfold prA at *
  have hw : ∀ o : Obj, Below w.heap.size w (w.alloc o) := (Below.refl w.heap.size w).alloc (Nat.le_refl _)
  have hcell : ∀ (t : TypeId) (w1 : World), Below (w.alloc (.cells #[.int .i64 (p.1.k : Int), .int .u8 (p.1.c.toNat : Int), .int .i64 (p.2.k : Int), .int .u8 (p.2.c.toNat : Int)] t)).heap.size (w.alloc (.cells #[.int .i64 (p.1.k : Int), .int .u8 (p.1.c.toNat : Int), .int .i64 (p.2.k : Int), .int .u8 (p.2.c.toNat : Int)] t)) w1 → w1.cell? ⟨w.heap.size, 1, none⟩ = some (.int .u8 (p.1.c.toNat : Int)) ∧ w1.cell? ⟨w.heap.size, 3, none⟩ = some (.int .u8 (p.2.c.toNat : Int)) := fun t w1 h => by
    have hh := heap_alloc_new w (.cells #[.int .i64 (p.1.k : Int), .int .u8 (p.1.c.toNat : Int), .int .i64 (p.2.k : Int), .int .u8 (p.2.c.toNat : Int)] t)
    have hb := h.block w.heap.size (by simp)
    constructor <;> (unfold World.cell?; rw [hb, hh]; rfl)
  have HC := hide hcell
  clear hcell
  cases h1 : bothB p with
  | false =>
    rw [h1] at B
    rw [Bool.false_and]
    clear h1
    go_enter Tryd.func26, Tryd.ntmps26
    go_wp2_with fail
    refine (B.out _).mono ?_
    rintro e w1 ⟨rfl, hb1⟩
    have hbw := (hw _).trans (hb1.mono (hw _).size)
    clear hb1
    go_wp2
    go_ret
    exact ⟨rfl, hbw⟩
  | true =>
    rw [h1] at B
    rw [Bool.true_and]
    have hne : ((p.1.c.toNat : Int) != (p.2.c.toNat : Int)) = decide (p.1.c ≠ p.2.c) := by
      by_cases h : p.1.c = p.2.c
      · rw [h]; simp
      · rw [decide_eq_true h]
        simp only [bne_iff_ne, ne_eq]
        intro e
        exact h (UInt8.toNat_inj.1 (by omega))
    generalize decide (p.1.c ≠ p.2.c) = r at *
    clear h1
    go_enter Tryd.func26, Tryd.ntmps26
    go_wp2_with fail
    refine (B.out _).mono ?_
    rintro e w1 ⟨rfl, hb1⟩
    have hbw := (hw _).trans (hb1.mono (hw _).size)
    obtain ⟨k1, k3⟩ := HC.out _ _ hb1
    clear hb1
    go_wp2
    go_ret
    exact ⟨rfl, hbw⟩
theorem prC_at (L : List (St × St)) (i : Nat) (h : i < L.length) : (prC L)[i * 4]? = some (.int .i64 (L[i].1.k : Int)) ∧ (prC L)[i * 4 + 1]? = some (.int .u8 (L[i].1.c.toNat : Int)) ∧ (prC L)[i * 4 + 2]? = some (.int .i64 (L[i].2.k : Int)) ∧ (prC L)[i * 4 + 3]? = some (.int .u8 (L[i].2.c.toNat : Int)) := by
  induction L generalizing i with
  | nil => simp at h
  | cons x L ih =>
    have e : prC (x :: L) = prV x ++ prC L := by simp [prC]
    rw [e]
    cases i with
    | zero => simp [prV]
    | succ i =>
      have := ih i (by simpa using h)
      have hl : (prV x).length = 4 := rfl
      rw [List.getElem?_append_right (by omega), List.getElem?_append_right (by omega), List.getElem?_append_right (by omega), List.getElem?_append_right (by omega), hl]
      rw [show (i + 1) * 4 - 4 = i * 4 by omega, show (i + 1) * 4 + 1 - 4 = i * 4 + 1 by omega, show (i + 1) * 4 + 2 - 4 = i * 4 + 2 by omega, show (i + 1) * 4 + 3 - 4 = i * 4 + 3 by omega]
      exact this

set_option maxRecDepth 100000 in
set_option maxHeartbeats 2000000 in
theorem indexFunc_any {w : World} {B : Nat} {v : Value} {L : List (St × St)} (h : w.ownsRow B 53 4 v L.length (prC L)) (hl : L.length ≤ 2000) :
    Calls Tryd.prog 36 #[v, .func (.func 26) #[] #[]] w fun e w' => (∃ i : Int, e = .returned (.int .i64 i) ∧ decide (0 ≤ i) = L.any unl ∧ i ≤ 2000) ∧ Below w.heap.size w w' := by
  have HO := hide h
  obtain ⟨a0, c0, rfl, hc1, hc2⟩ := own_shp h
  have U := hide (fun p w' => dropsUnlike_any p w')
  clear h
  go_enter Tryd.func36, Tryd.ntmps36
  go_wp2
  go_loopw [8] (fun i wr => ∃ k : Nat, k ≤ L.length ∧ i = .int .i64 k ∧ Hid ((L.take k).any unl = false) ∧ Below w.heap.size w wr) (fun i _ => L.length - (intOf i).toNat)
  case atStart => exact ⟨0, by omega, rfl, hide rfl, Below.refl _ _⟩
  case round =>
    obtain ⟨k, hk, rfl, hno, hbel⟩ := hrel
    by_cases hlt : k < L.length
    · obtain ⟨g, cp, ev, -, -, -, hg, hcl, -⟩ := own_cat (own_below HO.out hbel) (by omega)
      cases ev
      obtain ⟨p0, p1, p2, p3⟩ := prC_at L k hlt
      have q0 := hcl _ _ p0
      have q1 := hcl _ _ p1
      have q2 := hcl _ _ p2
      have q3 := hcl _ _ p3
      have U1 := U.out L[k]
      unfold prA at U1
      clear hcl p0 p1 p2 p3
      cases hu : unl L[k] with
      | true =>
        simp only [hu] at U1
        have U2 := hide U1
        have hany : L.any unl = true := List.any_eq_true.2 ⟨L[k], List.getElem_mem hlt, hu⟩
        have HA := hide hany
        clear U1 hu hany
        go_wp2_with fail
        refine (U2.out _).mono ?_
        rintro e w2 ⟨rfl, hb2⟩
        have hbw := hbel.trans (hb2.mono hbel.size)
        clear hb2
        go_wp2
        go_ret
        exact ⟨⟨_, rfl, by rw [HA.out]; exact decide_eq_true (by omega), by omega⟩, hbw⟩
      | false =>
        simp only [hu] at U1
        have U2 := hide U1
        have HA : Hid ((L.take (k + 1)).any unl = false) := hide (by rw [List.take_succ_eq_append_getElem hlt, List.any_append, hno.out]; simp [hu])
        clear U1 hu
        go_wp2_with fail
        refine (U2.out _).mono ?_
        rintro e w2 ⟨rfl, hb2⟩
        have hbw := hbel.trans (hb2.mono hbel.size)
        clear hb2
        go_wp2
        go_roundw
        case rel => exact ⟨k + 1, by omega, by go_num, HA, hbw⟩
        case measure => simp [intOf]; omega
    · obtain rfl : k = L.length := by omega
      have := hno.out
      rw [List.take_length] at this
      have HA := hide this
      clear this
      go_wp2
      go_ret
      exact ⟨⟨_, rfl, by rw [HA.out]; rfl, by omega⟩, hbel⟩

set_option maxHeartbeats 1000000 in
theorem containsFunc_any {w : World} {B : Nat} {v : Value} {L : List (St × St)} (h : w.ownsRow B 53 4 v L.length (prC L)) (hl : L.length ≤ 2000) :
    Calls Tryd.prog 25 #[v, .func (.func 26) #[] #[]] w fun e w' => e = .returned (.bool (L.any unl)) ∧ Below w.heap.size w w' := by
  have I := hide (indexFunc_any h hl)
  obtain ⟨a0, c0, rfl, hc1, hc2⟩ := own_shp h
  clear h
  go_enter Tryd.func25, Tryd.ntmps25
  go_wp2_with fail
  refine I.out.mono ?_
  rintro e w1 ⟨⟨i, rfl, hi, hi2⟩, hb⟩
  have HI := hide hi
  clear hi
  go_wp2
  go_ret
  exact ⟨ret_bool HI.out, hb⟩
end Go.Proofs.YtojlnnlcbpjdlabDoor
