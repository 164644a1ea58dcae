/- The contracts of dropsAround and putsWithin. -/
import Derived.Test.YtojlnnlcbpjdlabDoorFoot2
import Derived.Test.YtojlnnlcbpjdlabDoorSameW2
set_option linter.unusedVariables false
namespace Go.Proofs.YtojlnnlcbpjdlabDoor
open Go.RowKit Go.Shelf
open Doc1

/-- Whether the bytes ahead of a place and behind it are both dropped. -/
def around (d : List Bool) (t : Nat) : Bool := decide (0 < t) && (decide (t < d.length) && (d.getD (t - 1) false && d.getD t false))

theorem blS_at (d : List Bool) {i : Nat} (h : i < d.length) : (blS d)[i]? = some (.bool (d.getD i false)) := by
  unfold blS
  rw [List.getElem?_map, List.getElem?_eq_getElem h, List.getD_eq_getElem?_getD, List.getElem?_eq_getElem h]; rfl
theorem nmS_at (d : List Nat) {i : Nat} (h : i < d.length) : (nmS d)[i]? = some (.int .i64 (d[i] : Int)) := by
  unfold nmS
  rw [List.getElem?_map, List.getElem?_eq_getElem h]; rfl

set_option maxRecDepth 100000 in
set_option maxHeartbeats 4000000 in
theorem dropsAroundI {w : World} {B : Nat} {v vp : Value} {d : List Bool} {t : Nat} (ho : w.ownsRow B 4 1 v d.length (blS d)) (hvp : ∃ a n c, vp = .slice a n c) (hd : d.length ≤ 30000) (ht : t ≤ 30000) :
    Calls Tryd.prog 32 #[.agg #[v, vp], .int .i64 (t : Int)] w fun e w' => e = .returned (.bool (around d t)) ∧ Below w.heap.size w w' := by
  obtain ⟨a0, c0, rfl, d1, d2⟩ := own_shp ho
  obtain ⟨a1, n1, c1, rfl⟩ := hvp
  unfold around
  have hbw : Below w.heap.size w (w.alloc (.cells #[.slice a0 d.length c0, .slice a1 n1 c1] 47)) := (Below.refl _ _).alloc (Nat.le_refl _) _
  by_cases h0 : 0 < t
  · by_cases h1 : t < d.length
    · obtain ⟨g1, cp1, ev, -, -, -, -, hc1, -⟩ := own_cat (own_below ho hbw) (by omega)
      cases ev
      have q1 := hc1 (t - 1) (.bool (d.getD (t - 1) false)) (blS_at d (by omega))
      have q2 := hc1 t (.bool (d.getD t false)) (blS_at d h1)
      rw [decide_eq_true h0, decide_eq_true h1, Bool.true_and, Bool.true_and]
      generalize d.getD (t - 1) false = x at *
      generalize d.getD t false = y at *
      clear hc1 ho
      have hwp : IntKind.i64.wrap ((t : Int) - 1) = ((t - 1 : Nat) : Int) := by rw [IntKind.wrap_i64]; omega
      cases x <;> cases y
      all_goals
        go_enter Tryd.func32, Tryd.ntmps32
        go_wp2
        go_ret
        exact ⟨rfl, hbw⟩
    · rw [decide_eq_true h0, decide_eq_false h1, Bool.true_and, Bool.false_and]
      clear ho
      go_enter Tryd.func32, Tryd.ntmps32
      go_wp2
      go_ret
      exact ⟨rfl, hbw⟩
  · rw [decide_eq_false h0, Bool.false_and]
    clear ho
    go_enter Tryd.func32, Tryd.ntmps32
    go_wp2
    go_ret
    exact ⟨rfl, hbw⟩

/-- How many places lie among bytes that are dropped. -/
def wthn (d : List Bool) (ps : List Nat) : Nat := ps.countP (around d)
theorem wthn_step (d : List Bool) (ps : List Nat) {k : Nat} (h : k < ps.length) : wthn d (ps.take (k + 1)) = wthn d (ps.take k) + (if around d ps[k] = true then 1 else 0) := by
  unfold wthn
  rw [List.take_succ_eq_append_getElem h, List.countP_append, List.countP_singleton]
theorem wthn_le (d : List Bool) (ps : List Nat) (k : Nat) : wthn d (ps.take k) ≤ ps.length := by
  unfold wthn
  exact Nat.le_trans List.countP_le_length (by simp; omega)

set_option maxRecDepth 100000 in
set_option maxHeartbeats 4000000 in
theorem putsWithinI {w : World} {B B2 : Nat} {v vp vx vy : Value} {d : List Bool} {ps : List Nat} (hp : w.ownsRow B 3 1 vp ps.length (nmS ps)) (ho : w.ownsRow B2 4 1 v d.length (blS d)) (hvx : ∃ a n c, vx = .slice a n c) (hvy : ∃ a n c, vy = .slice a n c) (hd : d.length ≤ 30000) (hps : ps.length ≤ 1000) (ht : ∀ t ∈ ps, t ≤ 30000) :
    Calls Tryd.prog 18 #[.agg #[vx, vp], .agg #[v, vy]] w fun e w' => e = .returned (.int .i64 (wthn d ps : Int)) ∧ Below w.heap.size w w' := by
  have HO := hide ho
  have HP := hide hp
  obtain ⟨a0, c0, rfl, d1, d2⟩ := own_shp ho
  obtain ⟨a1, c1, rfl, d3, d4⟩ := own_shp hp
  have DA := hide (fun (w' : World) (t : Nat) (h : Below w.heap.size w w') (h2 : t ≤ 30000) => dropsAroundI (t := t) (own_below ho h) hvy hd h2)
  obtain ⟨a2, n2, c2, rfl⟩ := hvx
  obtain ⟨a3, n3, c3, rfl⟩ := hvy
  clear ho hp
  obtain ⟨w1, hw1⟩ : ∃ w1, (w.alloc (.cells #[.slice a2 n2 c2, .slice a1 ps.length c1] 47)).alloc (.cells #[.slice a0 d.length c0, .slice a3 n3 c3] 47) = w1 := ⟨_, rfl⟩
  have hb1 : Below w.heap.size w w1 := by rw [← hw1]; exact ((Below.refl _ _).alloc (Nat.le_refl _) _).alloc (by simp) _
  have hs1 : w1.heap.size = w.heap.size + 2 := by rw [← hw1]; simp
  have hx : w1.heap[w.heap.size]? = some (.cells #[.slice a2 n2 c2, .slice a1 ps.length c1] 47) := by rw [← hw1]; exact heap_alloc2_old _ _ _
  have hy : w1.heap[w.heap.size + 1]? = some (.cells #[.slice a0 d.length c0, .slice a3 n3 c3] 47) := by rw [← hw1]; exact heap_alloc2_new _ _ _
  have q1 := cell_of_row w1 w.heap.size 1 _ _ _ hx
  simp only [List.getElem?_toArray, List.getElem?_cons_zero, List.getElem?_cons_succ] at q1
  go_enter Tryd.func18, Tryd.ntmps18
  go_wp2
  clear hw1 hx q1
  go_loopw [5, 11] (fun v i wr => ∃ k : Nat, k ≤ ps.length ∧ i = .int .i64 k ∧ v = .int .i64 (wthn d (ps.take k) : Int) ∧ Below w1.heap.size w1 wr) (fun _ i _ => ps.length - (intOf i).toNat)
  case atStart => exact ⟨0, by omega, rfl, by simp [wthn], Below.refl _ _⟩
  case round =>
    obtain ⟨k, hk, rfl, rfl, hbr⟩ := hrel
    have hbw := hb1.trans (hbr.mono (by omega))
    by_cases hlt : k < ps.length
    · obtain ⟨g1, cp1, ev, -, -, -, -, hc1, -⟩ := own_cat (own_below HP.out hbw) (by omega)
      cases ev
      have e1 := hc1 k _ (nmS_at ps hlt)
      have D := hide (DA.out wr ps[k] hbw (ht _ (List.getElem_mem hlt)))
      have hst := wthn_step d ps hlt
      have hle := wthn_le d ps k
      have hyr := (hbr.block (w.heap.size + 1) (by omega)).trans hy
      have z0 := cell_of_row wr (w.heap.size + 1) 0 _ _ _ hyr
      have z1 := cell_of_row wr (w.heap.size + 1) 1 _ _ _ hyr
      simp only [List.getElem?_toArray, List.getElem?_cons_zero, List.getElem?_cons_succ] at z0 z1
      generalize ps[k] = t at *
      generalize around d t = bb at *
      generalize wthn d (ps.take k) = m at *
      have HST := hide hst
      clear hc1 hst hyr
      cases bb
      · go_wp2_with fail
        refine D.out.mono ?_
        rintro e w3 ⟨rfl, hb3⟩
        have hbz := hbr.trans (hb3.mono hbr.size)
        go_wp2
        go_roundw
        case rel => exact ⟨k + 1, by omega, by go_num, by rw [HST.out]; simp, hbz⟩
        case measure => simp [intOf]; omega
      · go_wp2_with fail
        refine D.out.mono ?_
        rintro e w3 ⟨rfl, hb3⟩
        have hbz := hbr.trans (hb3.mono hbr.size)
        go_wp2
        go_roundw
        case rel => exact ⟨k + 1, by omega, by go_num, by rw [HST.out]; simp, hbz⟩
        case measure => simp [intOf]; omega
    · obtain rfl : k = ps.length := by omega
      rw [List.take_length] at *
      go_wp2
      go_ret
      exact ⟨rfl, hbw⟩
end Go.Proofs.YtojlnnlcbpjdlabDoor
