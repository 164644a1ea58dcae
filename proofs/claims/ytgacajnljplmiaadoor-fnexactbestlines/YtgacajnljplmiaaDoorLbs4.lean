/- The best cuts, the best lines: the program's. -/
import Derived.Test.YtgacajnljplmiaaDoorLbs3
set_option linter.unusedVariables false
namespace Go.Proofs.YtgacajnljplmiaaDoor
open Go.RowKit
open Doc1

theorem made_at (m j : Nat) (h : j < m) : (madeCells (Value.agg ez0).cells m)[j]? = some (.int .i64 0) := by
  have hz : (Value.agg ez0).cells = ez0 := rfl
  rw [hz]
  unfold madeCells
  rw [Array.getElem?_map, Array.getElem?_eq_getElem (by simpa using h)]
  simp only [Option.map_some, Array.getElem_range]
  have : j % ez0.size < 3 := Nat.mod_lt _ (by decide)
  generalize j % ez0.size = q at this
  match q, this with
  | 0, _ => rfl
  | 1, _ => rfl
  | 2, _ => rfl
theorem eb_made (w : World) (n : Nat) (t : TypeId) : EB (w.alloc (.cells (madeCells (Value.agg ez0).cells (n * 3)) t)) w.heap.size n (fun _ => ez) := by
  have key : ∀ j, j < n * 3 → (w.alloc (.cells (madeCells (Value.agg ez0).cells (n * 3)) t)).cell? ⟨w.heap.size, j, none⟩ = some (.int .i64 0) := fun j hj => by
    unfold World.cell?
    rw [heap_alloc_new]
    exact made_at _ _ hj
  exact ⟨⟨fun j hj => ⟨_, key j hj⟩, fun j => World.frozen?_alloc_new _ _ _ _⟩, fun i hi => ⟨key _ (by omega), key _ (by omega), key _ (by omega)⟩, by simp⟩
theorem EB.congr {w : World} {g n : Nat} {f f' : Nat → En} (h : EB w g n f) (he : ∀ i, i < n → f i = f' i) : EB w g n f' := ⟨h.blk, fun i hi => by rw [← he i hi]; exact h.c i hi, h.lt⟩
theorem EB.set {w : World} {g n : Nat} {f : Nat → En} (h : EB w g n f) {k : Nat} (hk : k < n) (e : En) : EB (((w.setCell ⟨g, k * 3, none⟩ (.int .i64 (e.cost : Int))).setCell ⟨g, k * 3 + 1, none⟩ (.int .i64 (e.lines : Int))).setCell ⟨g, k * 3 + 2, none⟩ (.int .i64 (e.cut : Int))) g n (fun i => if i = k then e else f i) := by
  have ne : ∀ {x y : Nat}, x ≠ y → (⟨g, x, none⟩ : Addr) ≠ ⟨g, y, none⟩ := fun h e => h (Addr.mk.inj e).2.1
  refine ⟨((h.blk.set _ _).set _ _).set _ _, fun i hi => ?_, by simpa [World.setCell] using h.lt⟩
  by_cases he : i = k
  · subst he
    simp only [if_true]
    obtain ⟨c0, c1, c2⟩ := h.c i hi
    refine ⟨?_, ?_, ?_⟩
    · rw [World.cell?_setCell_other _ _ _ _ (ne (by omega)), World.cell?_setCell_other _ _ _ _ (ne (by omega))]
      exact World.cell?_setCell_same _ _ _ c0
    · rw [World.cell?_setCell_other _ _ _ _ (ne (by omega))]
      exact World.cell?_setCell_same _ _ _ (by rw [World.cell?_setCell_other _ _ _ _ (ne (by omega))]; exact c1)
    · exact World.cell?_setCell_same _ _ _ (by rw [World.cell?_setCell_other _ _ _ _ (ne (by omega)), World.cell?_setCell_other _ _ _ _ (ne (by omega))]; exact c2)
  · simp only [if_neg he]
    obtain ⟨c0, c1, c2⟩ := h.c i hi
    refine ⟨?_, ?_, ?_⟩ <;> (rw [World.cell?_setCell_other _ _ _ _ (ne (by omega)), World.cell?_setCell_other _ _ _ _ (ne (by omega)), World.cell?_setCell_other _ _ _ _ (ne (by omega))]; assumption)
theorem makeE (n : Nat) (hn : n ≤ 2000000) : ∀ w : World, (Instr.makeSlice 81 (.int .i64 (n : Int)) (.int .i64 (n : Int))).run Tryd.prog w = .ok (.slice (some ⟨w.heap.size, 0, none⟩) n n) (w.alloc (.cells (madeCells (Value.agg ez0).cells (n * 3)) 83)) := by
  have hinfo : (Tryd.prog.info? 83).map (fun i => (i.zero, i.size, i.bytes)) = some (some (.agg ez0), 3, 24) := by kernel_rfl
  obtain ⟨i0, hi0, hz0, hz1, hz2⟩ := info_parts hinfo
  intro w
  have := run_make (P := Tryd.prog) w 81 83 i0 (.agg ez0) Tryd.underlying81 hi0 hz0 .i64 .i64 n n (by omega) (Int.le_refl _) (by rw [hz2]; omega) (by omega)
  rw [hz1] at this
  simpa only [Int.toNat_natCast] using this
/-- The endings from k on are told. -/
def tlE (l : List ByteArray) (n : Int) (k : Nat) (i : Nat) : En := if k ≤ i then bE1 l n i else ez
theorem tlE_step {l : List ByteArray} {n : Int} {k : Nat} (hk : k < l.length) : pF l n (tlE l n (k + 1)) k (k + 1) ez = bE1 l n k := by
  rw [bE1_on hk]
  exact pF_congr _ _ _ rfl (fun x h1 h2 => by unfold tlE; rw [if_pos h1])
theorem tlE_bd {l : List ByteArray} {n : Int} (hd : Sd l n) (k i : Nat) : (tlE l n k i).cost ≤ 1000000 ∧ (tlE l n k i).lines ≤ 1000 := by
  have hl := hd.len
  unfold tlE
  split
  · have := bE1_bd hd _ i rfl
    have h2 : 6400 * (l.length - i) ≤ 6400 * 60 := Nat.mul_le_mul_left _ (by omega)
    omega
  · exact ⟨Nat.zero_le _, Nat.zero_le _⟩
theorem tlE_set (l : List ByteArray) (n : Int) (q i : Nat) : (if i = q then bE1 l n q else tlE l n (q + 1) i) = tlE l n q i := by
  unfold tlE
  by_cases c1 : i = q
  · subst c1; rw [if_pos rfl, if_pos (Nat.le_refl _)]
  · rw [if_neg c1]
    by_cases c2 : q + 1 ≤ i
    · rw [if_pos c2, if_pos (by omega)]
    · rw [if_neg c2, if_neg (by omega)]
def BcPost (l : List ByteArray) (n : Int) (w : World) (e : Ending) (w' : World) : Prop := ∃ cs v, e = .returned (.tuple #[v, .int .i64 ((bE1 l n 0).cost : Int)]) ∧ IOwn w' w.heap.size v (nts cs) ∧ rs l.length 0 cs ∧ cutE l cs = bEs l n 0 ∧ Below w.heap.size w w'
theorem own_eb {w w1 : World} {g m : Nat} {f : Nat → En} {r : Option Nat} (h : EB w g m f) (hg : w.grownBy w1 r) (hne : r ≠ some g) : EB w1 g m f := by
  have he := hg.block g h.lt (fun e => hne e.symm)
  exact ⟨⟨fun j hj => by rw [World.cell?_of_block he]; exact h.blk.ex j hj, fun j => by rw [World.frozen?_of_block he]; exact h.blk.fz j⟩, fun i hi => by
    have := h.c i hi
    exact ⟨(World.cell?_of_block he).trans this.1, (World.cell?_of_block he).trans this.2.1, (World.cell?_of_block he).trans this.2.2⟩, Nat.lt_of_lt_of_le h.lt hg.size⟩

set_option maxRecDepth 100000 in
set_option maxHeartbeats 4000000 in
theorem bestCuts_any (l : List ByteArray) (n : Int) (a : Option Addr) (cap : Nat) (w : World) (hd : Sd l n) (h : StIn w a cap l) :
    Calls Tryd.prog 43 #[.int .i64 n, .slice a l.length cap] w (BcPost l n w) := by
  obtain ⟨i0, hi0, hz0, hz1, hz2⟩ := info_parts Tryd.infoIn
  have hc1 := h.c1
  have hc2 := h.c2
  unfold maxLen at hc2
  have hl := hd.len
  have H := hide h
  have HD := hide hd
  have mk := makeE (l.length + 1) (by omega) w
  rw [show (((l.length + 1 : Nat)) : Int) = (l.length : Int) + 1 by omega] at mk
  obtain ⟨w1, hw1⟩ : ∃ w1, w1 = w.alloc (.cells (madeCells (Value.agg ez0).cells ((l.length + 1) * 3)) 83) := ⟨_, rfl⟩
  have hb1 : Below w.heap.size w w1 := by rw [hw1]; exact (Below.refl _ _).alloc (Nat.le_refl _) _
  have HS : Hid (EB w1 w.heap.size (l.length + 1) (tlE l n l.length) ∧ Below w.heap.size w w1) := hide ⟨by
    rw [hw1]
    exact (eb_made w _ _).congr (fun i hi => by
      unfold tlE
      split
      · rw [bE1_end (by omega)]
      · rfl), hb1⟩
  have EF : Hid (∀ (k : Nat) (w' : World), k < l.length → Below w.heap.size w w' → EB w' w.heap.size (l.length + 1) (tlE l n (k + 1)) → Calls Tryd.prog 63 #[.int .i64 (k : Int), .slice (some ⟨w.heap.size, 0, none⟩) (l.length + 1) (l.length + 1), .int .i64 n, .slice a l.length cap] w' fun e w'' => e = .returned (enV (bE1 l n k)) ∧ Below w'.heap.size w' w'') := hide (fun k w' hk hb he => by
    have := endingFrom_any l n (tlE l n (k + 1)) k w.heap.size a cap w' hd (h.later hb) he (tlE_bd hd (k + 1)) hk
    rw [tlE_step hk] at this
    exact this)
  rw [← hw1] at mk
  have hw0 : IntKind.i64.wrap ((l.length : Int) + 1) = (l.length : Int) + 1 := by rw [IntKind.wrap_i64]; omega
  have hwm : IntKind.i64.wrap ((l.length : Int) - 1) = (l.length : Int) - 1 := by rw [IntKind.wrap_i64]; omega
  clear h hd hb1 hw1
  go_enter Tryd.func43, Tryd.ntmps43
  go_wp2
  clear mk
  go_loopw [7] (fun i wr => ∃ k : Nat, k ≤ l.length ∧ i = .int .i64 ((k : Int) - 1) ∧ Hid (EB wr w.heap.size (l.length + 1) (tlE l n k) ∧ Below w.heap.size w wr)) (fun i _ => ((intOf i) + 1).toNat)
  case atStart => exact ⟨l.length, Nat.le_refl _, rfl, HS⟩
  case round =>
    obtain ⟨k, hk, rfl, HO⟩ := hrel
    have hB := HO.out.2.size
    by_cases h0 : k = 0
    · subst h0
      rw [show (((0 : Nat)) : Int) - 1 = -1 from rfl]
      have hdz : decide ((0 : Int) ≤ -1) = false := rfl
      obtain ⟨wo, rfl⟩ : ∃ wo, wo = wr := ⟨_, rfl⟩
      have hwo : w.heap.size < wo.heap.size := HO.out.1.lt
      clear HS EF H
      go_wp2
      go_loopw [8, 9] (fun v va wr => ∃ at_ : Nat, at_ ≤ l.length ∧ va = .int .i64 (at_ : Int) ∧ ∃ v0 cs, v0 = v ∧ Hid (cs ++ bEs l n at_ = bEs l n 0 ∧ cs.getLastD 0 = at_ ∧ rs l.length 0 cs ∧ cs.length ≤ at_ ∧ (0 < l.length → at_ < l.length)) ∧ Hid (IOwn wr wo.heap.size v0 (nts cs) ∧ Below wo.heap.size wo wr)) (fun _ va _ => l.length - (intOf va).toNat)
      case atStart => exact ⟨0, Nat.zero_le _, rfl, _, [], rfl, hide ⟨rfl, rfl, trivial, Nat.le_refl _, fun h => h⟩, hide ⟨World.ownsRow_nil _ _ _ _, Below.refl _ _⟩⟩
      case round =>
        obtain ⟨y, hy, rfl, v, cs, hv0, HC, HR⟩ := hrel
        subst hv0
        have hB2 := HR.out.2.size
        have EBr := HO.out.1.later HR.out.2
        obtain ⟨e0, e1, e2⟩ := EBr.c y (by omega)
        have ey : tlE l n 0 y = bE1 l n y := by unfold tlE; rw [if_pos (Nat.zero_le _)]
        rw [ey] at e0 e1 e2
        have hbd := bE1_bd HD.out _ y rfl
        by_cases hyl : y < l.length ∧ (bE1 l n y).cut < l.length
        · obtain ⟨g1, g2, g3, g4, g5⟩ := bE1_cut HD.out hyl.1
          have hlast := (not_congr (bE1_last HD.out hyl.1)).2 (by omega)
          have HC2 : Hid ((cs ++ [(bE1 l n y).cut]) ++ bEs l n (bE1 l n y).cut = bEs l n 0 ∧ (cs ++ [(bE1 l n y).cut]).getLastD 0 = (bE1 l n y).cut ∧ rs l.length 0 (cs ++ [(bE1 l n y).cut]) ∧ (cs ++ [(bE1 l n y).cut]).length ≤ (bE1 l n y).cut ∧ (0 < l.length → (bE1 l n y).cut < l.length)) := hide ⟨by rw [← HC.out.1, bEs_on HD.out hyl.1]; simp, by simp, rs_app _ _ _ _ HC.out.2.2.1 (by rw [HC.out.2.1]; exact g1) hyl.2, by rw [List.length_append]; have := HC.out.2.2.2.1; simp only [List.length_singleton]; omega, fun _ => hyl.2⟩
          obtain ⟨q, hq⟩ : ∃ q, q = (bE1 l n y).cut := ⟨_, rfl⟩
          obtain ⟨m, hm⟩ : ∃ m, m = (bE1 l n y).lines := ⟨_, rfl⟩
          rw [← hq] at e2 HC2 g1
          rw [← hm] at e1 hlast
          have hq2 : q < l.length := by rw [hq]; exact hyl.2
          have hm2 : m ≤ 60 := by rw [hm]; have := hbd.2.1; omega
          have hdm : decide ((1 : Int) < (m : Int)) = true := by rw [decide_eq_true_iff]; omega
          have hcl : (nts cs).length ≤ 60 := by rw [nts_len]; have := HC.out.2.2.2.1; omega
          have hi1 : (y : Int) < (l.length : Int) + 1 := by omega
          have hi2 : y < l.length + 1 := by omega
          clear hq hm hbd g2 g3 g4 g5 ey hyl EBr hlast e0
          go_wp2_with (at_builtin; refine wpList_append_loc _ rfl _ _ 33 rfl wo.heap.size 3 i0 (.int .i64 0) 1 8 Tryd.underlying33 hi0 hz0 hz1 hz2 rfl (by decide) _ _ _ rfl (World.ownsRow.alloc HR.out.1 _) ⟨wr.heap.size, 0, none⟩ 1 1 [.int .i64 (q : Int)] rfl rfl (World.news_of_block (cs := #[.int .i64 (q : Int)]) (t := 3) (fr := (0, 0)) (heap_alloc_new wr _)) (by simp [Value.oneCell']) (by unfold maxLen; omega) (by omega) (by simp; omega) ?_; intro v3 w3 own3 grow3 loc3; have HR3 : Hid (IOwn w3 wo.heap.size v3 (nts (cs ++ [q])) ∧ Below wo.heap.size wo w3) := hide ⟨IOwn.app1 own3, grown_belowB (HR.out.2.alloc hB2 _) (by simp; omega) (World.ownsRow.alloc HR.out.1 _) grow3⟩; clear own3 grow3 loc3)
          exact ⟨⟨q, by omega, rfl, v3, cs ++ [q], rfl, HC2, HR3⟩, by simp [intOf]; omega⟩
        · have hle : (bE1 l n y).lines ≤ 1 := by
            by_cases hyy : y < l.length
            · exact (bE1_last HD.out hyy).2 (by have := hbd.2.2.1; omega)
            · rw [bE1_end (by omega)]; exact Nat.zero_le _
          have HZ : Hid (cutE l cs = bEs l n 0) := hide (by
            unfold cutE
            by_cases hl0 : l.length = 0
            · rw [if_pos hl0, ← HC.out.1, bEs_end (by omega)]
            · have hyy := HC.out.2.2.2.2 (by omega)
              have hcu := (bE1_last HD.out hyy).1 hle
              rw [if_neg hl0, ← HC.out.1, bEs_on HD.out hyy, hcu, bEs_end (Nat.le_refl _)])
          obtain ⟨m, hm⟩ : ∃ m, m = (bE1 l n y).lines := ⟨_, rfl⟩
          rw [← hm] at e1 hle
          have hdm : decide ((1 : Int) < (m : Int)) = false := by rw [decide_eq_false_iff_not]; omega
          obtain ⟨f0, -, -⟩ := EBr.c 0 (by omega)
          have e00 : tlE l n 0 0 = bE1 l n 0 := rfl
          rw [e00] at f0
          obtain ⟨C, hC⟩ : ∃ C, C = (bE1 l n 0).cost := ⟨_, rfl⟩
          rw [← hC] at f0
          have hi1 : (y : Int) < (l.length : Int) + 1 := by omega
          have hi2 : y < l.length + 1 := by omega
          have HCC := hide hC
          have HW : Hid (Below w.heap.size w wr) := hide (HO.out.2.trans (HR.out.2.mono hB))
          have f0' : wr.cell? ⟨w.heap.size, 0, none⟩ = some (.int .i64 (C : Int)) := f0
          clear hm hbd ey hyl EBr e0 e2 hC e00 f0
          go_wp2
          go_region
          go_wp2
          go_ret2
          refine ⟨cs, v, ?_, own_below (own_mono HR.out.1 hB) (Below.refl _ _).drew, HC.out.2.2.1, HZ.out, HW.out.drew⟩
          rw [← HCC.out]
          rfl
    · obtain ⟨q, rfl⟩ : ∃ q, k = q + 1 := ⟨k - 1, by omega⟩
      rw [show (((q + 1 : Nat)) : Int) - 1 = (q : Int) by omega]
      have hdz : decide ((0 : Int) ≤ (q : Int)) = true := by rw [decide_eq_true_iff]; omega
      have E1 := hide (EF.out q wr (by omega) HO.out.2 HO.out.1)
      unfold enV enC at E1
      have hi1 : (q : Int) < (l.length : Int) + 1 := by omega
      have hi2 : q < l.length + 1 := by omega
      obtain ⟨E, hE⟩ : ∃ E, E = bE1 l n q := ⟨_, rfl⟩
      rw [← hE] at E1
      have HE := hide hE
      clear hE
      go_wp2_with (go_at_call 63; refine E1.out.mono ?_; rintro e w2 ⟨rfl, hb2⟩; have K := HO.out.1.later hb2; have x0 := K.blk.ex (q * 3) (by omega); have x1 := K.blk.ex (q * 3 + 1) (by omega); have x2 := K.blk.ex (q * 3 + 2) (by omega); obtain ⟨y0, z0⟩ := x0; obtain ⟨y1, z1⟩ := x1; obtain ⟨y2, z2⟩ := x2; have f0 := K.blk.fz (q * 3); have f1 := K.blk.fz (q * 3 + 1); have f2 := K.blk.fz (q * 3 + 2); have HN : Hid (EB (((w2.setCell ⟨w.heap.size, q * 3, none⟩ (.int .i64 (E.cost : Int))).setCell ⟨w.heap.size, q * 3 + 1, none⟩ (.int .i64 (E.lines : Int))).setCell ⟨w.heap.size, q * 3 + 2, none⟩ (.int .i64 (E.cut : Int))) w.heap.size (l.length + 1) (tlE l n q) ∧ Below w.heap.size w (((w2.setCell ⟨w.heap.size, q * 3, none⟩ (.int .i64 (E.cost : Int))).setCell ⟨w.heap.size, q * 3 + 1, none⟩ (.int .i64 (E.lines : Int))).setCell ⟨w.heap.size, q * 3 + 2, none⟩ (.int .i64 (E.cut : Int)))) := hide ⟨(K.set (by omega) E).congr (fun i hi => (by rw [HE.out]; exact tlE_set l n q i)), (((HO.out.2.trans (hb2.mono hB)).setCell (Nat.le_refl _) _).setCell (Nat.le_refl _) _).setCell (Nat.le_refl _) _⟩; clear hb2 K E1)
      exact ⟨⟨q, by omega, rfl, HN⟩, by simp [intOf] <;> omega⟩
def LcPost (L : List ByteArray) (c : Nat) (b : Bool) (w : World) (e : Ending) (w' : World) : Prop := ∃ v, e = .returned (.tuple #[v, .int .i64 (c : Int), .bool b]) ∧ SOwn w' w.heap.size v L ∧ Below w.heap.size w w'

set_option maxRecDepth 100000 in
set_option maxHeartbeats 2000000 in
theorem bestI_any (l : List ByteArray) (n : Int) (a : Option Addr) (cap : Nat) (w : World) (h : StIn w a cap l) (hs : ∀ s ∈ l, s.size ≤ 1048576) (hT : Tab w) :
    Calls Tryd.prog 19 #[.slice a l.length cap, .int .i64 n] w (LcPost (bsT l n).1 (bsT l n).2.1 (bsT l n).2.2 w) := by
  have E := hide (eachFits_any l n a cap w h hs hT)
  by_cases hd : said l n = true
  · rw [hd] at E
    have hg : bsT l n = (lnE l 0 (bEs l n 0), (bE1 l n 0).cost, true) := by unfold bsT; rw [if_pos hd]
    rw [hg]
    have G : Hid (∀ w', Below w.heap.size w w' → Calls Tryd.prog 43 #[.int .i64 n, .slice a l.length cap] w' (BcPost l n w')) := hide (fun w' hb => bestCuts_any l n a cap w' (said_iff.1 hd) (h.later hb))
    have LA : Hid (∀ (c : List Nat) ac capc w', Below w.heap.size w w' → NuIn w' ac capc (nts c) → rs l.length 0 c → Calls Tryd.prog 40 #[.slice ac c.length capc, .slice a l.length cap] w' (LsPost (lnE l 0 (cutE l c)) w')) := hide (fun c ac capc w' hb hn hr => linesAt_any l c n a ac cap capc w' (said_iff.1 hd) (h.later hb) hn hr)
    obtain ⟨C, hC⟩ : ∃ C, C = (bE1 l n 0).cost := ⟨_, rfl⟩
    rw [← hC]
    unfold BcPost at G
    rw [← hC] at G
    clear h hs hT hd hg hC
    go_enter Tryd.func19, Tryd.ntmps19
    go_wp2_with (go_at_call 39; refine E.out.mono ?_; rintro e w1 ⟨rfl, hb1⟩)
    go_wp2_with fail
    refine (G.out w1 hb1).mono ?_
    rintro e w2 ⟨cs, v, rfl, ho, hr, hc, hb2⟩
    obtain ⟨ac, capc, rfl, hn⟩ := ho.nu
    rw [nts_len]
    have hB2 : Below w.heap.size w w2 := hb1.trans (hb2.mono hb1.size)
    have LA1 := hide (LA.out cs ac capc w2 hB2 hn hr)
    rw [hc] at LA1
    have HB2 := hide hB2
    clear hn hr hc hb2 ho G LA hB2 hb1
    go_wp2_with fail
    refine LA1.out.mono ?_
    rintro e w3 ⟨v3, rfl, ho3, hb3⟩
    go_wp2
    go_ret3
    exact ⟨v3, rfl, own_mono ho3 HB2.out.size, HB2.out.trans (hb3.mono HB2.out.size)⟩
  · have hd2 : said l n = false := by simpa using hd
    rw [hd2] at E
    have hg : bsT l n = ([], 0, false) := by unfold bsT; rw [if_neg hd]
    rw [hg]
    clear h hs hT hd hg hd2
    go_enter Tryd.func19, Tryd.ntmps19
    go_wp2_with (go_at_call 39; refine E.out.mono ?_; rintro e w1 ⟨rfl, hb1⟩)
    go_ret3
    exact ⟨_, rfl, World.ownsRow_nil _ _ _ _, hb1⟩
end Go.Proofs.YtgacajnljplmiaaDoor
