/- slices.Backward over changes, by footprints. -/
import Derived.Test.YtpeconmdmddkfaaDoorChRow2
import Derived.Test.YtpeconmdmddkfaaDoorRange
import Derived.Test.YtpeconmdmddkfaaDoorOpW4
import Derived.Test.YtpeconmdmddkfaaDoorBoxes
set_option linter.unusedVariables false
namespace Go.Proofs.YtpeconmdmddkfaaDoor
open Go.RowKit Go.Shelf
open Doc1

attribute [local go_sem] Oper.semAt_some

theorem backward_any (v : Value) (w : World) (a : Option Addr) (len cap : Nat) (hv : v = .slice a len cap) :
    Calls Tryd.prog 122 #[v] w fun e w' => e = .returned (.func (.func 154) #[] #[.pointer (some ⟨w.heap.size, 0, none⟩)]) ∧ w' = w.alloc (.cells #[v] 22) := by
  subst hv
  go_enter Tryd.func122, Tryd.ntmps122
  go_wp2
  go_ret
  exact ⟨rfl, rfl⟩

/-- The numbers below n, from the last on. -/
def dn (n : Nat) : List Nat := (List.range n).reverse
theorem dn_len (n : Nat) : (dn n).length = n := by simp [dn]
theorem dn_at (n i : Nat) (h : i < n) : (dn n)[i]'(by rw [dn_len]; exact h) = n - 1 - i := by simp [dn]
theorem dn_take {n k : Nat} (h : k < n) : (dn n).take k ++ [n - 1 - k] <+: dn n ∧ (dn n).take (k + 1) = (dn n).take k ++ [n - 1 - k] := by
  have e : (dn n).take (k + 1) = (dn n).take k ++ [n - 1 - k] := by
    rw [List.take_succ_eq_append_getElem (by rw [dn_len]; exact h), dn_at n k h]
  exact ⟨by rw [← e]; exact List.take_prefix _ _, e⟩
theorem dn_next {n x : Nat} {pre : List Nat} (h : pre ++ [x] <+: dn n) : pre.length < n ∧ x = n - 1 - pre.length := by
  have h1 := h.length_le
  rw [dn_len] at h1
  simp at h1
  refine ⟨by omega, ?_⟩
  have h2 := h.getElem (i := pre.length) (by simp)
  rw [dn_at n pre.length (by omega)] at h2
  simpa using h2
def chE (vs : Nat → Value) (i : Nat) : Array Value := #[.int .i64 (i : Int), .agg #[vs i]]

set_option maxRecDepth 100000 in
set_option maxHeartbeats 2000000 in
theorem back_iter {w : World} {aw : Option Addr} {g off n cap Bs : Nat} {vs : Nat → Value} (hn : n ≤ 10000000) (had : 0 < n → aw = some ⟨g, off, none⟩) (hgl : g < w.heap.size) (hc : ∀ i, i < n → w.cell? ⟨g, off + i, none⟩ = some (vs i)) (hvs : ∀ i, i < n → ∃ a m c, vs i = .slice a m c) (hBs : w.cell? ⟨Bs, 0, none⟩ = some (.slice aw n cap)) :
    Iter Tryd.prog 154 #[.pointer (some ⟨Bs, 0, none⟩)] (chE vs) (dn n) (fun k => k = Bs ∨ k = g) w := by
  intro m li J Jx O W hJ hJx hsz0 need hY h0
  obtain ⟨eBs, nBs⟩ := need Bs (.inl rfl)
  obtain ⟨eg, ng⟩ := need g (.inr rfl)
  have hBW := (World.cell?_of_block (a := ⟨Bs, 0, none⟩) eBs).trans hBs
  have ltg : g < W.heap.size := Nat.lt_of_lt_of_le hgl hsz0
  have Hc := hide (fun i (hi : i < n) => (World.cell?_of_block (a := ⟨g, off + i, none⟩) eg).trans (hc i hi))
  have Hv := hide hvs
  have Had := hide had
  have ltB : Bs < W.heap.size := by
    have := World.block_lt_of_cell? W _ hBW
    exact this
  have HY := hide hY
  clear eBs eg hBs hc need had hvs hY
  have hdep : Fence.wide.depth = none := rfl
  refine callsIn_of_wp Tryd.func154 rfl trivial ?_ rfl
  simp only [Tryd.ntmps154, List.size_toArray, List.length_cons, List.length_nil, Nat.reduceAdd, Nat.reduceSub, Array.replicate_succ, Array.replicate_zero, List.push_toArray, List.append_toArray, List.nil_append, List.cons_append]
  gi_wp2
  gi_loopw [3] (fun i wr => ∃ k : Nat, k ≤ n ∧ i = .int .i64 ((n : Int) - 1 - (k : Int)) ∧ ∃ O', J ((dn n).take k) O' wr ∧ Moves O W O' wr) (fun i _ => (intOf i + 1).toNat)
  case atStart => exact ⟨0, Nat.zero_le _, by simp, O, h0, Moves.refl _ _⟩
  case round =>
    obtain ⟨k, hk, rfl, O', hJs, hnx⟩ := hrel
    by_cases hlt : k < n
    · have hB2 := (World.cell?_of_block (a := ⟨Bs, 0, none⟩) (hnx.same _ ltB nBs)).trans hBW
      obtain rfl := Had.out (by omega)
      obtain ⟨x, hx⟩ : ∃ x : Nat, x = n - 1 - k := ⟨_, rfl⟩
      have hxi : (n : Int) - 1 - (k : Int) = (x : Int) := by omega
      have hxn : x < n := by omega
      have c0 := (World.cell?_of_block (a := ⟨g, off + x, none⟩) (hnx.same _ ltg ng)).trans (Hc.out x hxn)
      obtain ⟨va, vm, vc, ev⟩ := Hv.out x hxn
      obtain ⟨hpre, htk⟩ := dn_take hlt
      rw [← hx] at hpre htk
      obtain ⟨fn, tmps, assign, body, hy, hR⟩ := HY.out ((dn n).take k) x O' wr hJs hpre
      have hR2 := hide (yield_m hR)
      unfold chE at hy
      rw [ev] at hy c0
      rw [hxi]
      have HTK := hide htk
      have HPR := hide hpre
      have HNX := hide hnx
      have HX := hide hx
      clear hR hnx htk hpre hJs hx hxi ev
      gi_wp2
      refine hR2.out.mono ?_
      rintro e w3 ⟨b, rfl, O3, mv3, h3⟩
      have mvW : Hid (Moves O W O3 w3) := hide (HNX.out.trans mv3)
      cases b with
      | true =>
        have hJ3 := h3.1 rfl
        rw [← HTK.out] at hJ3
        have HJ3 := hide hJ3
        clear c0 hy hR2 h3 mv3 hJ3 hB2
        gi_wp2
        refine ⟨⟨k + 1, by omega, ?_, O3, HJ3.out, mvW.out⟩, ?_⟩
        · have := HX.out
          rw [show (n : Int) - 1 - ((k + 1 : Nat) : Int) = (x : Int) - 1 by omega]
        · simp [intOf]
      | false =>
        have hJ3 := hide (h3.2 rfl)
        clear c0 hy hR2 h3 mv3 hB2
        gi_wp2
        refine bodyPost_ret (results_none rfl _ _ _) rfl ?_
        exact ⟨⟨_, rfl⟩, O3, mvW.out, .inr ⟨_, HPR.out, hJ3.out⟩⟩
    · obtain rfl : k = n := by omega
      rw [List.take_of_length_le (by rw [dn_len]; exact Nat.le_refl _)] at hJs
      have hneg : ¬ (0 ≤ (k : Int) - 1 - (k : Int)) := by omega
      have hdec : decide (0 ≤ (k : Int) - 1 - (k : Int)) = false := decide_eq_false hneg
      gi_wp2
      go_end0
      exact ⟨⟨_, rfl⟩, O', hnx, .inl hJs⟩
end Go.Proofs.YtpeconmdmddkfaaDoor
