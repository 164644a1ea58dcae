/- How words are broken best from one on: the program's. -/
import Derived.Test.YtgacajnljplmiaaDoorLbs2
import Derived.Deep.RegionHeld3
set_option linter.unusedVariables false
namespace Go.Proofs.YtgacajnljplmiaaDoor
open Go.RowKit
open Doc1

/-- A row of endings. -/
structure EB (w : World) (g n : Nat) (f : Nat → En) : Prop where
  blk : Blk w g (n * 3)
  c : ∀ i, i < n → w.cell? ⟨g, i * 3, none⟩ = some (.int .i64 ((f i).cost : Int)) ∧ w.cell? ⟨g, i * 3 + 1, none⟩ = some (.int .i64 ((f i).lines : Int)) ∧ w.cell? ⟨g, i * 3 + 2, none⟩ = some (.int .i64 ((f i).cut : Int))
  lt : g < w.heap.size
theorem EB.later {w w1 : World} {g n : Nat} {f : Nat → En} (h : EB w g n f) (hb : Below w.heap.size w w1) : EB w1 g n f :=
  ⟨h.blk.later hb h.lt, fun i hi => by
    have := h.c i hi
    exact ⟨(World.cell?_of_block (hb.block g h.lt)).trans this.1, (World.cell?_of_block (hb.block g h.lt)).trans this.2.1, (World.cell?_of_block (hb.block g h.lt)).trans this.2.2⟩, Nat.lt_of_lt_of_le h.lt hb.size⟩
theorem Tryd.sizeEnding : (Tryd.prog.info? 83).map (·.size) = some 3 := by kernel_rfl
def ez0 : Array Value := #[.int .i64 0, .int .i64 0, .int .i64 0]
theorem ez_c : enC ez = ez0 := rfl
theorem ebq_put {w w4 : World} {b : En} (h1 : Below w.heap.size w w4) (h2 : Bq 83 w4 w.heap.size ez) (h3 : Bq 83 w4 (w.heap.size + 1) b) (E : En) :
    Below w.heap.size w (((w4.setCell ⟨w.heap.size + 1, 0, none⟩ (.int .i64 (E.cost : Int))).setCell ⟨w.heap.size + 1, 1, none⟩ (.int .i64 (E.lines : Int))).setCell ⟨w.heap.size + 1, 2, none⟩ (.int .i64 (E.cut : Int))) ∧ Bq 83 (((w4.setCell ⟨w.heap.size + 1, 0, none⟩ (.int .i64 (E.cost : Int))).setCell ⟨w.heap.size + 1, 1, none⟩ (.int .i64 (E.lines : Int))).setCell ⟨w.heap.size + 1, 2, none⟩ (.int .i64 (E.cut : Int))) w.heap.size ez ∧ Bq 83 (((w4.setCell ⟨w.heap.size + 1, 0, none⟩ (.int .i64 (E.cost : Int))).setCell ⟨w.heap.size + 1, 1, none⟩ (.int .i64 (E.lines : Int))).setCell ⟨w.heap.size + 1, 2, none⟩ (.int .i64 (E.cut : Int))) (w.heap.size + 1) E :=
  ⟨((h1.setCell (by show w.heap.size ≤ w.heap.size + 1; omega) _).setCell (by show w.heap.size ≤ w.heap.size + 1; omega) _).setCell (by show w.heap.size ≤ w.heap.size + 1; omega) _, ((h2.block (set_other _ (by omega))).block (set_other _ (by omega))).block (set_other _ (by omega)), h3.set3 E⟩

set_option maxRecDepth 100000 in
set_option maxHeartbeats 4000000 in
theorem endingFrom_any (l : List ByteArray) (n : Int) (T : Nat → En) (x gE : Nat) (a : Option Addr) (cap : Nat) (w : World) (hd : Sd l n) (h : StIn w a cap l) (hE : EB w gE (l.length + 1) T) (hT : ∀ i, (T i).cost ≤ 1000000 ∧ (T i).lines ≤ 1000) (hx : x < l.length) :
    Calls Tryd.prog 63 #[.int .i64 (x : Int), .slice (some ⟨gE, 0, none⟩) (l.length + 1) (l.length + 1), .int .i64 n, .slice a l.length cap] w fun e w' => e = .returned (enV (pF l n T x (x + 1) ez)) ∧ Below w.heap.size w w' := by
  obtain ⟨R, hR⟩ : ∃ R, R = pF l n T x (x + 1) ez := ⟨_, rfl⟩
  rw [← hR]
  obtain ⟨w1, hw1⟩ : ∃ w1, w1 = (w.alloc (.cells ez0 83)).alloc (.cells ez0 83) := ⟨_, rfl⟩
  have hb1 : Below w.heap.size w w1 := by rw [hw1]; exact ((Below.refl _ _).alloc (Nat.le_refl _) _).alloc (by simp) _
  have q8 : Bq 83 w1 w.heap.size ez := by
    rw [hw1]
    exact (bq_new 83 w ez).later ((Below.refl _ _).alloc (Nat.le_refl _) _)
  have q9 : Bq 83 w1 (w.heap.size + 1) ez := by
    rw [hw1, show w.heap.size + 1 = (w.alloc (.cells ez0 83)).heap.size by simp]
    exact bq_new 83 _ ez
  have HS : Hid (Below w.heap.size w w1 ∧ Bq 83 w1 w.heap.size ez ∧ Bq 83 w1 (w.heap.size + 1) ez) := hide ⟨hb1, q8, q9⟩
  have hc1 := h.c1
  have hc2 := h.c2
  unfold maxLen at hc2
  have hl := hd.len
  have n1 := hd.lo
  have n2 := hd.hi
  have H := hide h
  have HE := hide hE
  have HT := hide hT
  have HD := hide hd
  have HR := hide hR
  have WO : Hid (∀ (g o y : Nat) (w' : World), StIn w' (some ⟨g, o, none⟩) cap l → x ≤ y → y ≤ l.length → Calls Tryd.prog 46 #[.slice (some ⟨g, o + x, none⟩) (y - x) (cap - x)] w' fun e w'' => e = .returned (.int .i64 ((wdS l x y : Nat) : Int)) ∧ Below w'.heap.size w' w'') := hide (fun g o y w' hx h1 h2 => by
    have := widthOf_any (Doc1.sl l x y) _ _ w' (hx.sl x y h1 h2) (fun s hs => wrd_asc (hd.wr s (mem_sl hs))) (by have := tt_sl l x y; have := hd.tt_le; omega) (by rw [sl_len h2]; omega)
    rw [← jn_size, sl_len h2] at this
    exact this)
  obtain ⟨g, o, rfl, hg, -⟩ := h.ce 0 (by omega)
  clear h hd hE hT hb1 q8 q9 hR
  unfold ez0 at hw1
  go_enter Tryd.func63, Tryd.ntmps63
  go_wp2
  rw [← hw1]
  clear hw1
  go_loopw [10] (fun i wr => ∃ c : Nat, x < c ∧ c ≤ l.length + 1 ∧ i = .int .i64 (c : Int) ∧ ∃ b, Hid (R = pF l n T x c b) ∧ Hid (Below w.heap.size w wr ∧ Bq 83 wr w.heap.size ez ∧ Bq 83 wr (w.heap.size + 1) b)) (fun i _ => l.length + 1 - (intOf i).toNat)
  case atStart => exact ⟨x + 1, by omega, by omega, by go_num, ez, HR, HS⟩
  case round =>
    obtain ⟨c, hc0, hcl, rfl, b, HP, HQ⟩ := hrel
    have hB := HQ.out.1.size
    have hg9 := HQ.out.2.2.lt
    by_cases hlt : c ≤ l.length
    · have hdl : decide ((c : Int) ≤ (l.length : Int)) = true := by rw [decide_eq_true_iff]; omega
      have hsl := cut_mid g o l.length cap x c (by omega) (by omega) (by omega)
      have W1 := hide (WO.out g o c wr (H.out.later HQ.out.1) (by omega) (by omega))
      have hwl := wdS_le (a := x) (b := c) HD.out.tt_le HD.out.len
      have b1 : (x : Int) ≤ (c : Int) := by omega
      have b2 : (c : Int) ≤ (cap : Int) := by omega
      by_cases hfit : (wdS l x c : Int) ≤ n
      · have HP2 : Hid (R = pF l n T x (c + 1) (tkP b (cnd l n T x c))) := hide (by rw [HP.out, pF_on hlt hfit])
        have hdw : decide (n < ((wdS l x c : Nat) : Int)) = false := by rw [decide_eq_false_iff_not]; omega
        have hcn : Hid (cnd l n T x c = ⟨(T c).cost + (if c < l.length then sq n (wdS l x c) else 0), (T c).lines + 1, c⟩) := hide rfl
        obtain ⟨z, hz⟩ : ∃ z, z = wdS l x c := ⟨_, rfl⟩
        rw [← hz] at W1 hdw hwl hcn hfit
        clear hz
        have hT1 := HT.out c
        go_wp2_with (go_at_call 46; refine W1.out.mono ?_; rintro e w2 ⟨rfl, hb2⟩; have HQ2 : Hid (Below w.heap.size w w2 ∧ Bq 83 w2 w.heap.size ez ∧ Bq 83 w2 (w.heap.size + 1) b) := hide ⟨HQ.out.1.trans (hb2.mono hB), HQ.out.2.1.later hb2, HQ.out.2.2.later hb2⟩; clear hb2 W1 HQ)
        have hEc := (HE.out.later HQ2.out.1).c c (by omega)
        obtain ⟨e0, e1, e2⟩ := hEc
        obtain ⟨k1, hk1⟩ : ∃ k1, k1 = (T c).cost := ⟨_, rfl⟩
        obtain ⟨k2, hk2⟩ : ∃ k2, k2 = (T c).lines := ⟨_, rfl⟩
        rw [← hk1] at e0 hcn hT1
        rw [← hk2] at e1 hcn hT1
        clear e2
        have hi1 : c < l.length + 1 := by omega
        obtain ⟨hk1b, hk2b⟩ := hT1
        have hgE : gE < w2.heap.size := (HE.out.later HQ2.out.1).lt
        have hal : Below w2.heap.size w2 (w2.alloc (.cells ez0 83)) := (Below.refl _ _).alloc (Nat.le_refl _) _
        have e0' := (World.cell?_of_block (a := ⟨gE, c * 3, none⟩) (hal.block gE hgE)).trans e0
        have e1' := (World.cell?_of_block (a := ⟨gE, c * 3 + 1, none⟩) (hal.block gE hgE)).trans e1
        unfold ez0 at e0' e1'
        have hi2 : (c : Int) < (l.length : Int) + 1 := by omega
        clear hk1 hk2 hal
        go_wp2
        go_region
        obtain ⟨w3, hw3⟩ : ∃ w3, w3 = (w2.alloc (.cells #[.int .i64 (k1 : Int), .int .i64 ((k2 : Int) + 1), .int .i64 (c : Int)] 83)).drew := ⟨_, rfl⟩
        have hbw3 : Below w2.heap.size w2 w3 := by rw [hw3]; exact ((Below.refl _ _).alloc (Nat.le_refl _) _).drew
        have hq3 : Bq 83 w3 w2.heap.size ⟨k1, k2 + 1, c⟩ := by
          rw [hw3]
          exact bq_new 83 w2 ⟨k1, k2 + 1, c⟩
        have hB2 := HQ2.out.1.size
        have HQ3 : Hid (Below w.heap.size w w3 ∧ Bq 83 w3 w.heap.size ez ∧ Bq 83 w3 (w.heap.size + 1) b ∧ Bq 83 w3 w2.heap.size ⟨k1, k2 + 1, c⟩) := hide ⟨HQ2.out.1.trans (hbw3.mono hB2), HQ2.out.2.1.later hbw3, HQ2.out.2.2.later hbw3, hq3⟩
        have hgb0 : w.heap.size + 1 < w2.heap.size := HQ2.out.2.2.lt
        rw [← hw3]
        clear hw3 hbw3 hq3 HQ2 e0 e1 e0' e1'
        by_cases hcl2 : c < l.length
        · have hdc : decide ((c : Int) < (l.length : Int)) = true := by rw [decide_eq_true_iff]; omega
          have CL := hide (fun w' => costOfLine_any z n w' hfit n2)
          have hsq := sq_le n2 z
          obtain ⟨q, hqq⟩ : ∃ q, q = sq n z := ⟨_, rfl⟩
          rw [← hqq] at CL hsq
          obtain ⟨p0, p1, p2⟩ := HQ3.out.2.2.2.cells
          have pf := HQ3.out.2.2.2.fz
          have hwq : IntKind.i64.wrap ((k1 : Int) + (q : Int)) = (k1 : Int) + (q : Int) := by rw [IntKind.wrap_i64]; omega
          obtain ⟨w4, hw4⟩ : ∃ w4, w4 = (w3.setCell ⟨w2.heap.size, 0, none⟩ (.int .i64 ((k1 : Int) + (q : Int)))).drew := ⟨_, rfl⟩
          have HQ4 : Hid (Below w.heap.size w w4 ∧ Bq 83 w4 w.heap.size ez ∧ Bq 83 w4 (w.heap.size + 1) b ∧ Bq 83 w4 w2.heap.size ⟨k1 + q, k2 + 1, c⟩) := hide (by
            rw [hw4]
            exact ⟨(HQ3.out.1.setCell (by show w.heap.size ≤ w2.heap.size; omega) _).drew, HQ3.out.2.1.block (set_other _ (by omega)), HQ3.out.2.2.1.block (set_other _ (by omega)), Bq.set0 (t := 83) HQ3.out.2.2.2 _⟩)
          have HQQ := hide hqq
          clear hqq
          go_wp2
          go_region_with (go_at_call 50; refine (CL.out _).mono ?_; rintro e w' ⟨rfl, hw'⟩; replace hw' := hw'.symm; subst hw')
          all_goals
            rw [← hw4]
            clear hw4 p0 p1 p2 pf hwq HQ3
            have HC : Hid (cnd l n T x c = ⟨k1 + q, k2 + 1, c⟩) := hide (by rw [hcn.out, if_pos hcl2, HQQ.out])
            obtain ⟨E, hE⟩ : ∃ E : En, E = ⟨k1 + q, k2 + 1, c⟩ := ⟨_, rfl⟩
            rw [← hE] at HC HQ4
            clear hE
            obtain ⟨b1, b2, b3⟩ := b
            obtain ⟨E1, E2, E3⟩ := E
            have hgb : w.heap.size + 1 < w2.heap.size := hgb0
            have HG9 : Hid (w.heap.size + 1 < w2.heap.size) := hide hgb
            by_cases hb0 : b2 = 0
            · have HT1 : Hid (R = pF l n T x (c + 1) ⟨E1, E2, E3⟩) := hide (by rw [HP2.out, HC.out]; unfold tkP; rw [if_pos (.inl hb0)])
              subst hb0
              obtain ⟨r0, r1, r2⟩ := HQ4.out.2.2.1.cells
              have rf := HQ4.out.2.2.1.fz
              obtain ⟨s0, s1, s2⟩ := HQ4.out.2.2.2.cells
              have HQ5 : Hid (Below w.heap.size w (((w4.setCell ⟨w.heap.size + 1, 0, none⟩ (.int .i64 (E1 : Int))).setCell ⟨w.heap.size + 1, 1, none⟩ (.int .i64 (E2 : Int))).setCell ⟨w.heap.size + 1, 2, none⟩ (.int .i64 (E3 : Int))) ∧ Bq 83 (((w4.setCell ⟨w.heap.size + 1, 0, none⟩ (.int .i64 (E1 : Int))).setCell ⟨w.heap.size + 1, 1, none⟩ (.int .i64 (E2 : Int))).setCell ⟨w.heap.size + 1, 2, none⟩ (.int .i64 (E3 : Int))) w.heap.size ez ∧ Bq 83 (((w4.setCell ⟨w.heap.size + 1, 0, none⟩ (.int .i64 (E1 : Int))).setCell ⟨w.heap.size + 1, 1, none⟩ (.int .i64 (E2 : Int))).setCell ⟨w.heap.size + 1, 2, none⟩ (.int .i64 (E3 : Int))) (w.heap.size + 1) ⟨E1, E2, E3⟩) := hide (ebq_put HQ4.out.1 HQ4.out.2.1 HQ4.out.2.2.1 ⟨E1, E2, E3⟩)
              go_wp2
              exact ⟨⟨c + 1, by omega, by omega, by go_num, _, HT1, HQ5⟩, by simp [intOf]; omega⟩
            · have hbn : ((b2 : Int) == 0) = false := by simp; omega
              have IB := hide (isBelow_any ⟨b1, b2, b3⟩ ⟨E1, E2, E3⟩ w4)
              unfold enV enC at IB
              obtain ⟨r0, r1, r2⟩ := HQ4.out.2.2.1.cells
              obtain ⟨s0, s1, s2⟩ := HQ4.out.2.2.2.cells
              by_cases hbl : blw ⟨b1, b2, b3⟩ ⟨E1, E2, E3⟩ = true
              · have HT1 : Hid (R = pF l n T x (c + 1) ⟨b1, b2, b3⟩) := hide (by rw [HP2.out, HC.out]; unfold tkP; rw [if_neg (fun e => by rcases e with e | e; exact hb0 e; rw [hbl] at e; cases e)])
                rw [hbl] at IB
                clear hbl hb0
                go_wp2_with (go_at_call 72; refine IB.out.mono ?_; rintro e w5 ⟨rfl, hb5⟩; have HQ5 : Hid (Below w.heap.size w w5 ∧ Bq 83 w5 w.heap.size ez ∧ Bq 83 w5 (w.heap.size + 1) ⟨b1, b2, b3⟩) := hide ⟨HQ4.out.1.trans (hb5.mono HQ4.out.1.size), HQ4.out.2.1.later hb5, HQ4.out.2.2.1.later hb5⟩; clear hb5)
                exact ⟨⟨c + 1, by omega, by omega, by go_num, _, HT1, HQ5⟩, by simp [intOf]; omega⟩
              · have hbl2 : blw ⟨b1, b2, b3⟩ ⟨E1, E2, E3⟩ = false := by simpa using hbl
                have HT1 : Hid (R = pF l n T x (c + 1) ⟨E1, E2, E3⟩) := hide (by rw [HP2.out, HC.out]; unfold tkP; rw [if_pos (.inr hbl2)])
                rw [hbl2] at IB
                clear hbl hb0 hbl2
                go_wp2_with (go_at_call 72; refine IB.out.mono ?_; rintro e w5 ⟨rfl, hb5⟩; have k1q := HQ4.out.2.2.1.later hb5; have k2q := HQ4.out.2.2.2.later hb5; obtain ⟨r0', r1', r2'⟩ := k1q.cells; have rf' := k1q.fz; obtain ⟨s0', s1', s2'⟩ := k2q.cells; have HQ5 := hide (ebq_put (HQ4.out.1.trans (hb5.mono HQ4.out.1.size)) (HQ4.out.2.1.later hb5) k1q ⟨E1, E2, E3⟩); clear hb5 k1q k2q r0 r1 r2 s0 s1 s2)
                exact ⟨⟨c + 1, by omega, by omega, by go_num, _, HT1, HQ5⟩, by simp [intOf]; omega⟩
        · have hdc : decide ((c : Int) < (l.length : Int)) = false := by rw [decide_eq_false_iff_not]; omega
          have HQ4 := HQ3
          have HC : Hid (cnd l n T x c = ⟨k1, k2 + 1, c⟩) := hide (by rw [hcn.out, if_neg hcl2]; rfl)
          obtain ⟨E, hE⟩ : ∃ E : En, E = ⟨k1, k2 + 1, c⟩ := ⟨_, rfl⟩
          rw [← hE] at HC HQ4
          clear hE
          obtain ⟨b1, b2, b3⟩ := b
          obtain ⟨E1, E2, E3⟩ := E
          have hgb : w.heap.size + 1 < w2.heap.size := hgb0
          have HG9 : Hid (w.heap.size + 1 < w2.heap.size) := hide hgb
          by_cases hb0 : b2 = 0
          · have HT1 : Hid (R = pF l n T x (c + 1) ⟨E1, E2, E3⟩) := hide (by rw [HP2.out, HC.out]; unfold tkP; rw [if_pos (.inl hb0)])
            subst hb0
            obtain ⟨r0, r1, r2⟩ := HQ4.out.2.2.1.cells
            have rf := HQ4.out.2.2.1.fz
            obtain ⟨s0, s1, s2⟩ := HQ4.out.2.2.2.cells
            have HQ5 : Hid (Below w.heap.size w (((w3.setCell ⟨w.heap.size + 1, 0, none⟩ (.int .i64 (E1 : Int))).setCell ⟨w.heap.size + 1, 1, none⟩ (.int .i64 (E2 : Int))).setCell ⟨w.heap.size + 1, 2, none⟩ (.int .i64 (E3 : Int))) ∧ Bq 83 (((w3.setCell ⟨w.heap.size + 1, 0, none⟩ (.int .i64 (E1 : Int))).setCell ⟨w.heap.size + 1, 1, none⟩ (.int .i64 (E2 : Int))).setCell ⟨w.heap.size + 1, 2, none⟩ (.int .i64 (E3 : Int))) w.heap.size ez ∧ Bq 83 (((w3.setCell ⟨w.heap.size + 1, 0, none⟩ (.int .i64 (E1 : Int))).setCell ⟨w.heap.size + 1, 1, none⟩ (.int .i64 (E2 : Int))).setCell ⟨w.heap.size + 1, 2, none⟩ (.int .i64 (E3 : Int))) (w.heap.size + 1) ⟨E1, E2, E3⟩) := hide (ebq_put HQ4.out.1 HQ4.out.2.1 HQ4.out.2.2.1 ⟨E1, E2, E3⟩)
            go_wp2
            exact ⟨⟨c + 1, by omega, by omega, by go_num, _, HT1, HQ5⟩, by simp [intOf]; omega⟩
          · have hbn : ((b2 : Int) == 0) = false := by simp; omega
            have IB := hide (isBelow_any ⟨b1, b2, b3⟩ ⟨E1, E2, E3⟩ w3)
            unfold enV enC at IB
            obtain ⟨r0, r1, r2⟩ := HQ4.out.2.2.1.cells
            obtain ⟨s0, s1, s2⟩ := HQ4.out.2.2.2.cells
            by_cases hbl : blw ⟨b1, b2, b3⟩ ⟨E1, E2, E3⟩ = true
            · have HT1 : Hid (R = pF l n T x (c + 1) ⟨b1, b2, b3⟩) := hide (by rw [HP2.out, HC.out]; unfold tkP; rw [if_neg (fun e => by rcases e with e | e; exact hb0 e; rw [hbl] at e; cases e)])
              rw [hbl] at IB
              clear hbl hb0
              go_wp2_with (go_at_call 72; refine IB.out.mono ?_; rintro e w5 ⟨rfl, hb5⟩; have HQ5 : Hid (Below w.heap.size w w5 ∧ Bq 83 w5 w.heap.size ez ∧ Bq 83 w5 (w.heap.size + 1) ⟨b1, b2, b3⟩) := hide ⟨HQ4.out.1.trans (hb5.mono HQ4.out.1.size), HQ4.out.2.1.later hb5, HQ4.out.2.2.1.later hb5⟩; clear hb5)
              exact ⟨⟨c + 1, by omega, by omega, by go_num, _, HT1, HQ5⟩, by simp [intOf]; omega⟩
            · have hbl2 : blw ⟨b1, b2, b3⟩ ⟨E1, E2, E3⟩ = false := by simpa using hbl
              have HT1 : Hid (R = pF l n T x (c + 1) ⟨E1, E2, E3⟩) := hide (by rw [HP2.out, HC.out]; unfold tkP; rw [if_pos (.inr hbl2)])
              rw [hbl2] at IB
              clear hbl hb0 hbl2
              go_wp2_with (go_at_call 72; refine IB.out.mono ?_; rintro e w5 ⟨rfl, hb5⟩; have k1q := HQ4.out.2.2.1.later hb5; have k2q := HQ4.out.2.2.2.later hb5; obtain ⟨r0', r1', r2'⟩ := k1q.cells; have rf' := k1q.fz; obtain ⟨s0', s1', s2'⟩ := k2q.cells; have HQ5 := hide (ebq_put (HQ4.out.1.trans (hb5.mono HQ4.out.1.size)) (HQ4.out.2.1.later hb5) k1q ⟨E1, E2, E3⟩); clear hb5 k1q k2q r0 r1 r2 s0 s1 s2)
              exact ⟨⟨c + 1, by omega, by omega, by go_num, _, HT1, HQ5⟩, by simp [intOf]; omega⟩
      · have HP2 : Hid (R = b) := hide (by rw [HP.out, pF_end (fun e => hfit e.2)])
        have hdw : decide (n < ((wdS l x c : Nat) : Int)) = true := by rw [decide_eq_true_iff]; omega
        obtain ⟨z, hz⟩ : ∃ z, z = wdS l x c := ⟨_, rfl⟩
        rw [← hz] at W1 hdw hwl
        clear hz hfit
        obtain ⟨b1, b2, b3⟩ := b
        go_wp2_with (go_at_call 46; refine W1.out.mono ?_; rintro e w2 ⟨rfl, hb2⟩; have k8 := HQ.out.2.1.later hb2; have k9 := HQ.out.2.2.later hb2; obtain ⟨r0, r1, r2⟩ := k9.cells; obtain ⟨s0, s1, s2⟩ := k8.cells; have sf := k8.fz; have HF := hide (k8.set3 ⟨b1, b2, b3⟩); have HB2 : Hid (Below w.heap.size w w2) := hide (HQ.out.1.trans (hb2.mono hB)); clear hb2 W1 HQ k8 k9)
        (try simp only [Exit.inBlock, Exit.then])
        refine bodyPost_ret (results_cell_row rfl _ _ w.heap.size 83 _ (0, 0) _ rfl HF.out Tryd.underlying83 rfl Tryd.sizeEnding) rfl ?_
        rw [HP2.out]
        exact ⟨rfl, ((HB2.out.setCell (Nat.le_refl _) _).setCell (Nat.le_refl _) _).setCell (Nat.le_refl _) _⟩
    · have HP2 : Hid (R = b) := hide (by rw [HP.out, pF_end (fun e => hlt e.1)])
      have hdl : decide ((c : Int) ≤ (l.length : Int)) = false := by rw [decide_eq_false_iff_not]; omega
      obtain ⟨b1, b2, b3⟩ := b
      obtain ⟨r0, r1, r2⟩ := HQ.out.2.2.cells
      obtain ⟨s0, s1, s2⟩ := HQ.out.2.1.cells
      have sf := HQ.out.2.1.fz
      have HF := hide (HQ.out.2.1.set3 ⟨b1, b2, b3⟩)
      go_wp2
      (try simp only [Exit.inBlock, Exit.then])
      refine bodyPost_ret (results_cell_row rfl _ _ w.heap.size 83 _ (0, 0) _ rfl HF.out Tryd.underlying83 rfl Tryd.sizeEnding) rfl ?_
      rw [HP2.out]
      exact ⟨rfl, ((HQ.out.1.setCell (Nat.le_refl _) _).setCell (Nat.le_refl _) _).setCell (Nat.le_refl _) _⟩
end Go.Proofs.YtgacajnljplmiaaDoor
