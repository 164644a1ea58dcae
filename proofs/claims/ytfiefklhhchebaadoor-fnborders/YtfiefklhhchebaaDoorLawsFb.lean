/- The law FnBorders: a border is one, no longer one is, and a text goes on with its period. -/
import Derived.Test.YtfiefklhhchebaaDoorKmq2
set_option linter.unusedVariables false
namespace Go.Proofs.YtfiefklhhchebaaDoor
open Go.RowKit
open Doc1

theorem ne_of_eqb {α : Type} [BEq α] {a b : α} {x : Bool} (h : (a == b) = x) : (a != b) = !x := by rw [bne, h]
/-- A text goes on with its period. -/
theorem per_goes {p : ByteArray} {n i : Nat} (h0 : 0 < p.size) (hn : brd p.data.toList p.size = n) (h1 : p.size - n ≤ i) (h2 : i < p.size) : p[i] = p[i - (p.size - n)]'(by omega) := by
  have hb := brd_mx p.data.toList (k := p.size) h0
  rw [hn] at hb
  have := (suf_iff.1 hb.is).2 (i - (p.size - n)) (by have := hb.lt; omega)
  rw [show p.size - n + (i - (p.size - n)) = i by omega, gd_at p i h2, gd_at p _ (by omega)] at this
  exact this.symm

set_option maxRecDepth 100000 in
set_option maxHeartbeats 8000000 in
theorem law_borders (C : Value) (w : World) (hco : CodeAt w.heap.size C w) (hT : Tab w) :
    Calls Tryd.prog 4 #[C] w fun e w' => e = .returned (.bool true) ∧ Below w.heap.size w w' := by
  obtain ⟨a1, len, cap, rfl⟩ := hco.shape
  by_cases hl : len ≤ 1048576
  · have H0 := hide (drawBordersOf_any (.slice a1 len cap) w hco)
    have HT := hide hT
    clear hco hT
    go_enter Tryd.func4, Tryd.ntmps4
    go_wp2_with fail
    refine H0.out.mono ?_
    rintro e w1 ⟨p, rfl, hp, hw⟩
    clear H0
    have K1 := hide (bordI_any p w1 (by omega) (HT.out.below hw))
    go_wp2_with fail
    refine K1.out.mono ?_
    rintro e w2 ⟨v, rfl, ho, hq⟩
    replace hw := hw.trans (hq.mono hw.size)
    clear hq K1
    have K2 := hide (bordS_any p w2 (by omega))
    go_wp2_with fail
    refine K2.out.mono ?_
    rintro e w3 ⟨v2, rfl, ho2, hq⟩
    replace hw := hw.trans (hq.mono hw.size)
    replace ho := own_below ho hq
    clear hq K2
    have K3 := hide (periI_any p w3 (by omega) (HT.out.below hw))
    go_wp2_with fail
    refine K3.out.mono ?_
    rintro e w4 ⟨rfl, hq⟩
    replace hw := hw.trans (hq.mono hw.size)
    replace ho := own_below ho hq
    replace ho2 := own_below ho2 hq
    clear hq K3
    have K4 := hide (sameInts_own ho ho2 (by have := borO_len p; omega))
    cases hs : sgt p with
    | false =>
      have hO : borO p = [] := by unfold borO; rw [hs]; rfl
      rw [hO] at ho
      obtain ⟨a, ca, rfl, -, -⟩ := own_shp ho
      clear ho ho2 hO
      have hu : undef = Value.tuple #[] := rfl
      go_wp2_with fail
      refine K4.out.mono ?_
      rintro e w5 ⟨rfl, hq⟩
      replace hw := hw.trans (hq.mono hw.size)
      clear hq K4
      go_wp2
      go_ret
      exact ⟨rfl, hw⟩
    | true =>
      obtain ⟨h0, -, -⟩ := sgt_yes hs
      have hO : borO p = (List.range p.size).map (bF p.data.toList p.size) := by unfold borO; rw [hs]; rfl
      obtain ⟨n0, hn0⟩ : ∃ n, brd p.data.toList p.size = n := ⟨_, rfl⟩
      have hbl := brd_lt p.data.toList (k := p.size) (by omega)
      rw [hn0] at hbl
      obtain ⟨P, hP1⟩ : ∃ P, P = p.size - n0 := ⟨_, rfl⟩
      have hP : perO p = (P : Int) := by unfold perO; rw [hs, if_pos rfl, hn0, hP1]
      have HG : Hid (∀ i (h1 : P ≤ i) (h2 : i < p.size) (h3 : i - P < p.size), p[i]'h2 = p[i - P]'h3) := hide (fun i h1 h2 h3 => by subst hP1; exact per_goes h0 hn0 h1 h2)
      have hPl : 0 < P ∧ P ≤ p.size ∧ n0 + P = p.size := by omega
      rw [hP]
      rw [hO] at ho
      rw [List.length_map, List.length_range] at ho
      obtain ⟨g, ca, rfl, k1, k2, -⟩ := own_open ho h0
      have HO := hide ho
      have HN := hide hn0
      clear ho ho2 hO hP hP1 hn0
      go_wp2_with fail
      refine K4.out.mono ?_
      rintro e w5 ⟨rfl, hq⟩
      have HO5 := hide (own_below HO.out hq)
      have HW := hide (hw.trans (hq.mono hw.size))
      clear hq K4 HO hw
      go_wp2
      go_loopw [56] (fun vi wr => ∃ i : Nat, i ≤ p.size ∧ vi = .int .i64 (i : Int) ∧ Hid (Below w5.heap.size w5 wr)) (fun vi _ => p.size - (intOf vi).toNat)
      case atStart => exact ⟨0, by omega, rfl, hide (Below.refl _ _)⟩
      case round =>
        obtain ⟨i, hi, rfl, HR⟩ := hrel
        by_cases hlt : i < p.size
        · have c1 := World.ownsRow.cellAt (own_below HO5.out HR.out) i (by omega)
          have c2 : wr.cell? ⟨g, i, none⟩ = some (.int .i64 (brd p.data.toList (i + 1) : Int)) := by
            rw [c1]; simp [ints, hlt]; exact bF_lt hlt
          have hmx := brd_mx p.data.toList (k := i + 1) (by omega)
          have hcm := fun k (hk : k ≤ i + 1) => bord_cmp (p := p) (m := i + 1) (k := k) (by omega) hk
          obtain ⟨n, hn⟩ : ∃ n, brd p.data.toList (i + 1) = n := ⟨_, rfl⟩
          rw [hn] at c2 hmx
          have hni : n ≤ i := by have := hmx.lt; omega
          have hqs : (p.extract 0 (i + 1)).size = i + 1 := by rw [ByteArray.size_extract]; omega
          have hc0 := hcm n (by omega)
          rw [hmx.is] at hc0
          have HC : Hid (∀ k, n < k → k ≤ i → (((p.extract 0 (i + 1)).extract 0 k).toList == ((p.extract 0 (i + 1)).extract (i + 1 - k) (i + 1)).toList) = false) := hide (fun k h1 h2 => by
            rw [hcm k (by omega)]
            cases h : suf p.data.toList p.data.toList (i + 1) k with
            | false => rfl
            | true => have := hmx.mx k (by omega) h; omega)
          clear hcm hmx hn c1
          go_wp2
          generalize p.extract 0 (i + 1) = q at *
          have HC2 := HC.out
          rw [← hqs] at hc0 HC2
          replace HC := hide HC2
          have hc1 := ne_of_eqb hc0
          have hnq : n ≤ q.size := by omega
          have d1 : decide ((n : Int) < 0) = false := decide_eq_false (by omega)
          have d2 : decide ((i : Int) < (n : Int)) = false := decide_eq_false (by omega)
          have ew : IntKind.i64.wrap ((q.size : Int) - (n : Int)) = ((q.size - n : Nat) : Int) := by rw [IntKind.wrap_i64]; omega
          have hq3 : q.size ≤ 300 := by omega
          replace hqs := hide hqs
          clear HC2
          go_quiet (fail)
          have HR1 := hide (below_dN HR.out nq)
          generalize wr.drewN nq = wq at HR1 ⊢
          clear HR hc0 hc1 d1 d2 ew hnq c2
          go_wp2
          go_loopw [13] (fun vk wy => ∃ k : Nat, n < k ∧ k ≤ i + 1 ∧ vk = .int .i64 (k : Int) ∧ Hid (Below w5.heap.size w5 wy)) (fun vk _ => i + 1 - (intOf vk).toNat)
          case atStart => exact ⟨n + 1, by omega, by omega, by go_num, HR1⟩
          case round =>
            obtain ⟨k, hk1, hk2, rfl, HR⟩ := hrel
            clear HR1
            by_cases hki : k ≤ i
            · have hc0 := HC.out k hk1 hki
              have hkq : k ≤ q.size := by have := hqs.out; omega
              have ew : IntKind.i64.wrap ((q.size : Int) - (k : Int)) = ((q.size - k : Nat) : Int) := by rw [IntKind.wrap_i64]; omega
              go_wp2
              go_quiet (fail)
              go_wp2
              exact ⟨⟨k + 1, by omega, by omega, by go_num, hide (below_dN HR.out _)⟩, by simp [intOf]; omega⟩
            · go_wp2
              exact ⟨⟨i + 1, by omega, by go_num, HR⟩, by simp [intOf]; omega⟩
        · go_wp2
          clear hlt hi
          go_loopw [14] (fun vi wy => ∃ i : Nat, P ≤ i ∧ i ≤ p.size ∧ vi = .int .i64 (i : Int) ∧ Hid (Below w5.heap.size w5 wy)) (fun vi _ => p.size - (intOf vi).toNat)
          case atStart => exact ⟨P, by omega, by omega, rfl, HR⟩
          case round =>
            clear HR
            obtain ⟨i, h1, h2, rfl, HR⟩ := hrel
            by_cases hlt : i < p.size
            · have hiP : i - P < p.size := by omega
              have q2 := u8_ne1 (HG.out i h1 hlt hiP)
              have ew : IntKind.i64.wrap ((i : Int) - (P : Int)) = ((i - P : Nat) : Int) := by rw [IntKind.wrap_i64]; omega
              go_wp2
              go_quiet (fail)
              go_wp2
              exact ⟨⟨i + 1, by omega, by omega, by go_num, hide (below_dN HR.out _)⟩, by simp [intOf]; omega⟩
            · have c1 := World.ownsRow.cellAt (own_below HO5.out HR.out) (p.size - 1) (by omega)
              have c2 : wr.cell? ⟨g, p.size - 1, none⟩ = some (.int .i64 (n0 : Int)) := by
                have hlt1 : p.size - 1 < p.size := by omega
                rw [c1]; simp [ints, hlt1]; rw [bF_lt hlt1, show p.size - 1 + 1 = p.size by omega, HN.out]
              have ew : IntKind.i64.wrap ((p.size : Int) - 1) = ((p.size - 1 : Nat) : Int) := by rw [IntKind.wrap_i64]; omega
              have ew2 : IntKind.i64.wrap ((p.size : Int) - (n0 : Int)) = (P : Int) := by rw [IntKind.wrap_i64]; omega
              have HF := hide (HW.out.trans (HR.out.mono HW.out.size))
              clear c1 HR
              go_wp2
              go_ret
              exact ⟨rfl, HF.out⟩
  · go_enter Tryd.func4, Tryd.ntmps4
    go_wp2
    go_ret
    exact ⟨rfl, Below.refl _ _⟩
end Go.Proofs.YtfiefklhhchebaaDoor
