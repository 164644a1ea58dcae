/- The best lines: the model's. -/
import Derived.Test.YtgacajnljplmiaaDoorLbs4
set_option linter.unusedVariables false
namespace Go.Proofs.YtgacajnljplmiaaDoor
open Go.RowKit
open Doc1

def md (e : En) (i : Nat) : En := ⟨e.cost, e.lines, e.cut - i⟩
def tlM (l : List ByteArray) (n : Int) (k : Nat) (i : Nat) : En := if k ≤ i then md (bE1 l n i) i else ez
theorem makeB (n : Nat) (hn : n ≤ 2000000) : ∀ w : World, (Instr.makeSlice 56 (.int .i64 (n : Int)) (.int .i64 (n : Int))).run Tryd.prog w = .ok (.slice (some ⟨w.heap.size, 0, none⟩) n n) (w.alloc (.cells (madeCells (Value.agg ez0).cells (n * 3)) 59)) := by
  have hinfo : (Tryd.prog.info? 59).map (fun i => (i.zero, i.size, i.bytes)) = some (some (.agg ez0), 3, 24) := by kernel_rfl
  obtain ⟨i0, hi0, hz0, hz1, hz2⟩ := info_parts hinfo
  intro w
  have := run_make (P := Tryd.prog) w 56 59 i0 (.agg ez0) Tryd.underlying56 hi0 hz0 .i64 .i64 n n (by omega) (Int.le_refl _) (by rw [hz2]; omega) (by omega)
  rw [hz1] at this
  simpa only [Int.toNat_natCast] using this
/-- The row while the ways from x on are tried. -/
def rwM (l : List ByteArray) (n : Int) (x : Nat) (b : En) (i : Nat) : En := if i = x then md b x else tlM l n (x + 1) i
def okE (x : Nat) (b : En) : Prop := (b.lines = 0 ∧ b.cut - x = 0) ∨ (0 < b.lines ∧ x < b.cut)
theorem rwM_set (l : List ByteArray) (n : Int) (x : Nat) (b e : En) (i : Nat) : (if i = x then md e x else rwM l n x b i) = rwM l n x e i := by
  unfold rwM
  by_cases h : i = x
  · rw [if_pos h, if_pos h]
  · rw [if_neg h, if_neg h, if_neg h]
theorem mv3 (W : World) (o : Obj) (g i j k : Nat) (a b c : Value) (h : g < W.heap.size) : (((W.alloc o).setCell ⟨g, i, none⟩ a).setCell ⟨g, j, none⟩ b).setCell ⟨g, k, none⟩ c = (((W.setCell ⟨g, i, none⟩ a).setCell ⟨g, j, none⟩ b).setCell ⟨g, k, none⟩ c).alloc o := by
  rw [World.setCell_alloc_past (hn := h), World.setCell_alloc_past (hn := by rw [World.size_setCell]; exact h), World.setCell_alloc_past (hn := by rw [World.size_setCell, World.size_setCell]; exact h)]
theorem mv3' {P : World → Prop} {Q : World → Prop} {W : World} {o : Obj} {g i j k : Nat} {a b c : Value} (h : g < W.heap.size) (hp : P ((((W.alloc o).setCell ⟨g, i, none⟩ a).setCell ⟨g, j, none⟩ b).setCell ⟨g, k, none⟩ c) ∧ Q ((((W.alloc o).setCell ⟨g, i, none⟩ a).setCell ⟨g, j, none⟩ b).setCell ⟨g, k, none⟩ c)) : P ((((W.setCell ⟨g, i, none⟩ a).setCell ⟨g, j, none⟩ b).setCell ⟨g, k, none⟩ c).alloc o) ∧ Q ((((W.setCell ⟨g, i, none⟩ a).setCell ⟨g, j, none⟩ b).setCell ⟨g, k, none⟩ c).alloc o) := by
  rw [← mv3 W o g i j k a b c h]; exact hp
theorem rwM_end {l : List ByteArray} {n : Int} {x : Nat} (i : Nat) : rwM l n x (bE1 l n x) i = tlM l n x i := by
  unfold rwM tlM
  by_cases h : i = x
  · subst h; rw [if_pos rfl, if_pos (Nat.le_refl _)]
  · rw [if_neg h]
    by_cases c2 : x + 1 ≤ i
    · rw [if_pos c2, if_pos (by omega)]
    · rw [if_neg c2, if_neg (by omega)]
theorem rwM_start {l : List ByteArray} {n : Int} {x : Nat} (i : Nat) : tlM l n (x + 1) i = rwM l n x ez i := by
  unfold rwM
  by_cases h : i = x
  · subst h
    rw [if_pos rfl]
    unfold tlM
    rw [if_neg (by omega)]
    unfold md ez
    simp
  · rw [if_neg h]

set_option maxRecDepth 100000 in
set_option maxHeartbeats 4000000 in
theorem bestS_any (l : List ByteArray) (n : Int) (a : Option Addr) (cap : Nat) (w : World) (h : StIn w a cap l) (hs : ∀ s ∈ l, s.size ≤ 1048576) (hll0 : l.length ≤ 10000000) :
    Calls Tryd.prog 18 #[.slice a l.length cap, .int .i64 n] w (LcPost (bsT l n).1 (bsT l n).2.1 (bsT l n).2.2 w) := by
  obtain ⟨i0, hi0, hz0, hz1, hz2⟩ := info_parts Tryd.infoStr
  have E := hide (l13Said_any l n a cap w h hs hll0)
  by_cases hd : said l n = true
  · rw [hd] at E
    have hg : bsT l n = (lnE l 0 (bEs l n 0), (bE1 l n 0).cost, true) := by unfold bsT; rw [if_pos hd]
    rw [hg]
    have hsd := said_iff.1 hd
    have hl := hsd.len
    have n1 := hsd.lo
    have n2 := hsd.hi
    have hc1 := h.c1
    have hc2 := h.c2
    unfold maxLen at hc2
    have HD := hide hsd
    have H := hide h
    have LO : Hid (∀ (g o x y : Nat) (w' : World), StIn w' (some ⟨g, o, none⟩) cap l → x ≤ y → y ≤ l.length → Calls Tryd.prog 42 #[.slice (some ⟨g, o + x, none⟩) (y - x) (cap - x)] w' fun e w'' => e = .returned (.string (jn (Doc1.sl l x y))) ∧ w'' = w') := hide (fun g o x y w' hx h1 h2 => by
      have := l13Join_any (Doc1.sl l x y) _ _ w' (hx.sl x y h1 h2) (by have := tt_sl l x y; have := hsd.tt_le; omega) (by rw [sl_len h2]; omega)
      rw [sl_len h2] at this
      exact this)
    have mk := makeB (l.length + 1) (by omega) w
    rw [show (((l.length + 1 : Nat)) : Int) = (l.length : Int) + 1 by omega] at mk
    obtain ⟨w1, hw1⟩ : ∃ w1, w1 = w.alloc (.cells (madeCells (Value.agg ez0).cells ((l.length + 1) * 3)) 59) := ⟨_, rfl⟩
    have hb1 : Below w.heap.size w w1 := by rw [hw1]; exact (Below.refl _ _).alloc (Nat.le_refl _) _
    have HS : Hid (EB w1 w.heap.size (l.length + 1) (tlM l n l.length) ∧ Below w.heap.size w w1) := hide ⟨by
      rw [hw1]
      exact (eb_made w _ _).congr (fun i hi => by
        unfold tlM
        split
        · rw [bE1_end (by omega)]; unfold md ez; simp
        · rfl), hb1⟩
    rw [← hw1] at mk
    have hw0 : IntKind.i64.wrap ((l.length : Int) + 1) = (l.length : Int) + 1 := by rw [IntKind.wrap_i64]; omega
    have hwm : IntKind.i64.wrap ((l.length : Int) - 1) = (l.length : Int) - 1 := by rw [IntKind.wrap_i64]; omega
    obtain ⟨LL, hLL⟩ : ∃ LL, LL = lnE l 0 (bEs l n 0) := ⟨_, rfl⟩
    obtain ⟨CC0, hCC⟩ : ∃ CC0, CC0 = (bE1 l n 0).cost := ⟨_, rfl⟩
    rw [← hLL, ← hCC]
    have HLL := hide hLL
    have HCC := hide hCC
    clear h hs hd hg hsd hb1 hw1 hLL hCC
    go_enter Tryd.func18, Tryd.ntmps18
    go_wp2_with (go_at_call 37; refine E.out.mono ?_; rintro e w9 ⟨rfl, hw'⟩; replace hw' := hw'.symm; subst hw')
    clear mk E
    go_loopw [8] (fun i wr => ∃ k : Nat, k ≤ l.length ∧ i = .int .i64 ((k : Int) - 1) ∧ Hid (EB wr w.heap.size (l.length + 1) (tlM l n k) ∧ Below w.heap.size w wr)) (fun i _ => ((intOf i) + 1).toNat)
    case atStart => exact ⟨l.length, Nat.le_refl _, rfl, HS⟩
    case round =>
      obtain ⟨k, hk, rfl, HO⟩ := hrel
      have hB := HO.out.2.size
      by_cases h0 : k = 0
      · subst h0
        rw [show (((0 : Nat)) : Int) - 1 = -1 from rfl]
        have hdz : decide ((0 : Int) ≤ -1) = false := rfl
        obtain ⟨wo, rfl⟩ : ∃ wo, wo = wr := ⟨_, rfl⟩
        clear HS
        go_wp2
        go_loopw [13, 14] (fun v va wr => ∃ at_ : Nat, at_ ≤ l.length ∧ va = .int .i64 (at_ : Int) ∧ ∃ v0 es, v0 = v ∧ Hid (es ++ bEs l n at_ = bEs l n 0 ∧ es.getLastD 0 = at_ ∧ es.length ≤ at_) ∧ Hid (SOwn wr wo.heap.size v0 (lnE l 0 es) ∧ Below wo.heap.size wo wr)) (fun _ va _ => l.length - (intOf va).toNat)
        case atStart => exact ⟨0, Nat.zero_le _, rfl, _, [], rfl, hide ⟨rfl, rfl, Nat.le_refl _⟩, hide ⟨World.ownsRow_nil _ _ _ _, Below.refl _ _⟩⟩
        case round =>
          obtain ⟨y, hy, rfl, v, es, hv0, HC, HR⟩ := hrel
          subst hv0
          have hB2 := HR.out.2.size
          have EBr := HO.out.1.later HR.out.2
          by_cases hyl : y < l.length
          · obtain ⟨-, -, e2⟩ := EBr.c y (by omega)
            obtain ⟨g1, g2, g3, g4, g5⟩ := bE1_cut HD.out hyl
            have HC2 : Hid ((es ++ [(bE1 l n y).cut]) ++ bEs l n (bE1 l n y).cut = bEs l n 0 ∧ (es ++ [(bE1 l n y).cut]).getLastD 0 = (bE1 l n y).cut ∧ (es ++ [(bE1 l n y).cut]).length ≤ (bE1 l n y).cut) := hide ⟨by rw [← HC.out.1, bEs_on HD.out hyl]; simp, by simp, by rw [List.length_append]; have := HC.out.2.2; simp only [List.length_singleton]; omega⟩
            have hLn : Hid (lnE l 0 (es ++ [(bE1 l n y).cut]) = lnE l 0 es ++ [jn (Doc1.sl l y (bE1 l n y).cut)]) := hide (by rw [lnE_snoc, HC.out.2.1])
            have ey : (tlM l n 0 y).cut = (bE1 l n y).cut - y := by unfold tlM; rw [if_pos (Nat.zero_le _)]; rfl
            rw [ey] at e2
            obtain ⟨q, hq⟩ : ∃ q, q = (bE1 l n y).cut := ⟨_, rfl⟩
            rw [← hq] at e2 HC2 g1 g2 hLn
            obtain ⟨d, hd⟩ : ∃ d, d = q - y := ⟨_, rfl⟩
            rw [← hd] at e2
            have hyd : (y : Int) + (d : Int) = (q : Int) := by omega
            have hwd : IntKind.i64.wrap (q : Int) = (q : Int) := by rw [IntKind.wrap_i64]; omega
            obtain ⟨g, o, rfl, hgg, -⟩ := H.out.ce 0 (by omega)
            have hsl := cut_mid g o l.length cap y q (by omega) (by omega) (by omega)
            have J := hide (LO.out g o y q wr (H.out.later (HO.out.2.trans (HR.out.2.mono hB))) (by omega) (by omega))
            obtain ⟨S, hS⟩ : ∃ S, S = jn (Doc1.sl l y q) := ⟨_, rfl⟩
            rw [← hS] at J hLn
            have hlk : (lnE l 0 es).length ≤ 60 := by rw [lnE_len]; have := HC.out.2.2; omega
            obtain ⟨M, hM⟩ : ∃ M, M = lnE l 0 es := ⟨_, rfl⟩
            rw [← hM] at hLn HR hlk
            have hi1 : (y : Int) < (l.length : Int) + 1 := by omega
            have hi2 : y < l.length + 1 := by omega
            have hdl : decide ((y : Int) < (l.length : Int)) = true := by rw [decide_eq_true_iff]; omega
            have EB3 : Hid (∀ w3, Below wo.heap.size wo w3 → w3.cell? ⟨w.heap.size, y * 3 + 2, none⟩ = some (.int .i64 (d : Int))) := hide (fun w3 hb => by
              have K := (HO.out.1.later hb).c y (by omega)
              have := K.2.2
              rw [ey, ← hq, ← hd] at this
              exact this)
            clear hq hd g3 g4 g5 ey EBr hS hM
            go_wp2_with (first
              | (go_at_call 42; refine J.out.mono ?_; rintro e w9 ⟨rfl, hw'⟩; replace hw' := hw'.symm; subst hw')
              | (at_builtin; refine wpList_append_loc _ rfl _ _ 22 rfl wo.heap.size 9 i0 (.string ⟨#[]⟩) 1 16 Tryd.underlying22 hi0 hz0 hz1 hz2 rfl (by decide) _ _ _ rfl (World.ownsRow.alloc HR.out.1 _) ⟨wr.heap.size, 0, none⟩ 1 1 [.string S] rfl rfl (World.news_of_block (cs := #[.string S]) (t := 9) (fr := (0, 0)) (heap_alloc_new wr _)) (by simp [Value.oneCell']) (by unfold maxLen; omega) (by omega) (by simp; omega) ?_; intro v3 w3 own3 grow3 loc3; have HR3 : Hid (SOwn w3 wo.heap.size v3 (lnE l 0 (es ++ [q])) ∧ Below wo.heap.size wo w3) := hide ⟨(by rw [hLn.out]; exact SOwn.app1 own3), grown_belowB (HR.out.2.alloc hB2 _) (by simp; omega) (World.ownsRow.alloc HR.out.1 _) grow3⟩; clear own3 grow3 loc3; have e3 := EB3.out w3 HR3.out.2))
            exact ⟨⟨q, by omega, by first | rfl | (rw [hyd]) | go_num, v3, es ++ [q], rfl, HC2, HR3⟩, by simp [intOf] <;> omega⟩
          · have hdl : decide ((y : Int) < (l.length : Int)) = false := by rw [decide_eq_false_iff_not]; omega
            have HZ : Hid (lnE l 0 es = LL) := hide (by rw [HLL.out, ← HC.out.1, bEs_end (by omega), List.append_nil])
            obtain ⟨f0, -, -⟩ := EBr.c 0 (by omega)
            have f0' : wr.cell? ⟨w.heap.size, 0, none⟩ = some (.int .i64 (CC0 : Int)) := by rw [HCC.out]; exact f0
            have HW : Hid (Below w.heap.size w wr) := hide (HO.out.2.trans (HR.out.2.mono hB))
            clear EBr f0
            go_wp2
            go_region
            go_wp2
            go_ret3
            exact ⟨v, rfl, by rw [← HZ.out]; exact own_below (own_mono HR.out.1 hB) (Below.refl _ _).drew, HW.out.drew⟩
      · obtain ⟨x, rfl⟩ : ∃ q, k = q + 1 := ⟨k - 1, by omega⟩
        rw [show (((x + 1 : Nat)) : Int) - 1 = (x : Int) by omega]
        have hdz : decide ((0 : Int) ≤ (x : Int)) = true := by rw [decide_eq_true_iff]; omega
        obtain ⟨g, o, rfl, hgg, -⟩ := H.out.ce 0 (by omega)
        have hfit1 := HD.out.fit _ (List.getElem_mem (show x < l.length by omega))
        have HSa : Hid (mF l n (bE1 l n) x (l.length - x) ez = bE1 l n x) := hide (by rw [best_same (by omega) hfit1, ← bE1_on (by omega)])
        have HO2 : Hid (EB wr w.heap.size (l.length + 1) (rwM l n x ez) ∧ Below w.heap.size w wr) := hide ⟨HO.out.1.congr (fun i hi => rwM_start i), HO.out.2⟩
        have hwx : IntKind.i64.wrap ((l.length : Int) - (x : Int)) = ((l.length - x : Nat) : Int) := by rw [IntKind.wrap_i64]; omega
        have hnx : (l.length : Int) - (x : Int) = ((l.length - x : Nat) : Int) := by omega
        obtain ⟨wo, rfl⟩ : ∃ wo, wo = wr := ⟨_, rfl⟩
        clear HO HS hfit1
        go_wp2
        (try rw [hnx])
        go_loopw [9] (fun i wr => ∃ k : Nat, k ≤ l.length - x ∧ i = .int .i64 (k : Int) ∧ ∃ b, Hid (mF l n (bE1 l n) x (l.length - x) ez = mF l n (bE1 l n) x k b) ∧ Hid (okE x b) ∧ Hid (EB wr w.heap.size (l.length + 1) (rwM l n x b) ∧ Below w.heap.size w wr)) (fun i _ => (intOf i).toNat)
        case atStart => exact ⟨l.length - x, Nat.le_refl _, rfl, ez, hide rfl, hide (.inl ⟨rfl, by unfold ez; simp⟩), HO2⟩
        case round =>
          obtain ⟨k, hk2, rfl, b, HM, HOK, HR⟩ := hrel
          have hB2 := HR.out.2.size
          by_cases hk0 : k = 0
          · subst hk0
            have HN : Hid (EB wr w.heap.size (l.length + 1) (tlM l n x) ∧ Below w.heap.size w wr) := hide ⟨HR.out.1.congr (fun i hi => by
              have e : b = bE1 l n x := by rw [← HSa.out, HM.out]; rfl
              rw [e]; exact rwM_end i), HR.out.2⟩
            go_wp2
            exact ⟨⟨x, by omega, by first | rfl | go_num, HN⟩, by simp [intOf] <;> omega⟩
          · obtain ⟨q, rfl⟩ : ∃ q, k = q + 1 := ⟨k - 1, by omega⟩
            obtain ⟨c, hc⟩ : ∃ c, c = x + (q + 1) := ⟨_, rfl⟩
            have hck : (x : Int) + ((q + 1 : Nat) : Int) = (c : Int) := by omega
            have hcl : c ≤ l.length := by omega
            have hxc : x < c := by omega
            have hsl := cut_mid g o l.length cap x c (by omega) (by omega) (by omega)
            have J := hide (LO.out g o x c wr (H.out.later HR.out.2) (by omega) (by omega))
            have hwl := wdS_le (a := x) (b := c) HD.out.tt_le HD.out.len
            have HMs : Hid (mF l n (bE1 l n) x (q + 1) b = mF l n (bE1 l n) x q (if (wdS l x c : Int) ≤ n then tkM b (cnd l n (bE1 l n) x c) else b)) := hide (by rw [hc]; rfl)
            have hwc : IntKind.i64.wrap (c : Int) = (c : Int) := by rw [IntKind.wrap_i64]; omega
            have hwq : IntKind.i64.wrap (((q + 1 : Nat) : Int) - 1) = (q : Int) := by rw [IntKind.wrap_i64]; omega
            have hq1 : ((q + 1 : Nat) : Int) - 1 = (q : Int) := by omega
            have hdq : decide ((0 : Int) < ((q + 1 : Nat) : Int)) = true := by rw [decide_eq_true_iff]; omega
            unfold wdS at hwl
            obtain ⟨S, hS⟩ : ∃ S, S = jn (Doc1.sl l x c) := ⟨_, rfl⟩
            have hSw : wdS l x c = S.size := by unfold wdS; rw [hS]
            rw [← hS] at J hwl
            obtain ⟨K, hK⟩ : ∃ K, K = q + 1 := ⟨_, rfl⟩
            rw [← hK] at hck hwq hq1 hdq HM HMs ⊢
            have HK := hide hK
            have HCd := hide hc
            have hKb : K ≤ 60 := by omega
            by_cases hfit : (S.size : Int) ≤ n
            · have HM2 : Hid (mF l n (bE1 l n) x (l.length - x) ez = mF l n (bE1 l n) x q (tkM b (cnd l n (bE1 l n) x c))) := hide (by rw [HM.out, HMs.out, hSw, if_pos hfit])
              have hds : decide (n < (S.size : Int)) = false := by rw [decide_eq_false_iff_not]; omega
              have hcn : Hid (cnd l n (bE1 l n) x c = ⟨(bE1 l n c).cost + (if c < l.length then sq n (wdS l x c) else 0), (bE1 l n c).lines + 1, c⟩) := hide rfl
              rw [hSw] at hcn
              have hbd := bE1_bd HD.out _ c rfl
              obtain ⟨e0, e1, -⟩ := HR.out.1.c c (by omega)
              have eqc : rwM l n x b c = md (bE1 l n c) c := by unfold rwM tlM; rw [if_neg (by omega), if_pos (by omega)]
              rw [eqc] at e0 e1
              replace e0 : wr.cell? ⟨w.heap.size, c * 3, none⟩ = some (.int .i64 ((bE1 l n c).cost : Int)) := e0
              replace e1 : wr.cell? ⟨w.heap.size, c * 3 + 1, none⟩ = some (.int .i64 ((bE1 l n c).lines : Int)) := e1
              have hk1b : (bE1 l n c).cost ≤ 1000000 := by
                have h2 : 6400 * (l.length - c) ≤ 6400 * 60 := Nat.mul_le_mul_left _ (by omega)
                omega
              have hk2b : (bE1 l n c).lines ≤ 1000 := by omega
              obtain ⟨k1, hk1⟩ : ∃ k1, k1 = (bE1 l n c).cost := ⟨_, rfl⟩
              obtain ⟨k2, hk2'⟩ : ∃ k2, k2 = (bE1 l n c).lines := ⟨_, rfl⟩
              rw [← hk1] at e0 hcn hk1b
              rw [← hk2'] at e1 hcn hk2b
              have hgE : w.heap.size < wr.heap.size := HR.out.1.lt
              have hal : Below wr.heap.size wr (wr.alloc (.cells ez0 59)) := (Below.refl _ _).alloc (Nat.le_refl _) _
              have e0' := (World.cell?_of_block (a := ⟨w.heap.size, c * 3, none⟩) (hal.block _ hgE)).trans e0
              have e1' := (World.cell?_of_block (a := ⟨w.heap.size, c * 3 + 1, none⟩) (hal.block _ hgE)).trans e1
              unfold ez0 at e0' e1'
              have hi1 : (c : Int) < (l.length : Int) + 1 := by omega
              have hi2 : c < l.length + 1 := by omega
              obtain ⟨w3, hw3⟩ : ∃ w3, w3 = (wr.alloc (.cells #[.int .i64 (k1 : Int), .int .i64 ((k2 : Int) + 1), .int .i64 (K : Int)] 59)).drew := ⟨_, rfl⟩
              have hbw3 : Below wr.heap.size wr w3 := by rw [hw3]; exact ((Below.refl _ _).alloc (Nat.le_refl _) _).drew
              have hs3 : w3.heap.size = wr.heap.size + 1 := by rw [hw3]; show (wr.alloc _).heap.size = _; simp
              have HQ3 : Hid (EB w3 w.heap.size (l.length + 1) (rwM l n x b) ∧ Below w.heap.size w w3 ∧ Bq 59 w3 wr.heap.size ⟨k1, k2 + 1, K⟩) := hide ⟨HR.out.1.later hbw3, HR.out.2.trans (hbw3.mono hB2), by
                rw [hw3]
                exact bq_new 59 wr ⟨k1, k2 + 1, K⟩⟩
              clear hk1 hk2' hal hc hS hSw eqc hbd hK HMs hbw3 HR
              go_wp2_with (go_at_call 42; refine J.out.mono ?_; rintro e w9 ⟨rfl, hw'⟩; replace hw' := hw'.symm; subst hw')
              go_region
              rw [← hw3]
              clear hw3 e0 e1 e0' e1' J
              have hxi : (x : Int) < (l.length : Int) + 1 := by omega
              have hxi2 : x < l.length + 1 := by omega
              by_cases hcl2 : c < l.length
              · have hdc : decide ((c : Int) < (l.length : Int)) = true := by rw [decide_eq_true_iff]; omega
                obtain ⟨u, hu⟩ : ∃ u : Nat, n - (S.size : Int) = (u : Int) := ⟨(n - S.size).toNat, by omega⟩
                have hu8 : u ≤ 80 := by omega
                obtain ⟨Q, hQ⟩ : ∃ Q : Nat, (u : Int) * (u : Int) = (Q : Int) := ⟨u * u, (Int.natCast_mul u u).symm⟩
                have hQ8 : Q ≤ 6400 := by
                  have h1 : u * u ≤ 80 * 80 := Nat.mul_le_mul hu8 hu8
                  have h2 : ((u * u : Nat) : Int) = (Q : Int) := by rw [← hQ]; exact Int.natCast_mul u u
                  omega
                have HSQ : Hid (sq n S.size = Q) := hide (by
                  unfold sq
                  rw [show n.toNat - S.size = u by omega]
                  have h2 : ((u * u : Nat) : Int) = (Q : Int) := by rw [← hQ]; exact Int.natCast_mul u u
                  omega)
                have hwu : IntKind.i64.wrap (n - (S.size : Int)) = (u : Int) := by rw [IntKind.wrap_i64]; omega
                have hwQ : IntKind.i64.wrap (Q : Int) = (Q : Int) := by rw [IntKind.wrap_i64]; omega
                have hwk : IntKind.i64.wrap ((k1 : Int) + (Q : Int)) = (k1 : Int) + (Q : Int) := by rw [IntKind.wrap_i64]; omega
                obtain ⟨w4, hw4⟩ : ∃ w4, w4 = w3.setCell ⟨wr.heap.size, 0, none⟩ (.int .i64 ((k1 : Int) + (Q : Int))) := ⟨_, rfl⟩
                obtain ⟨p0, p1, p2⟩ := HQ3.out.2.2.cells
                have pf := HQ3.out.2.2.fz
                have hs4 : w4.heap.size = wr.heap.size + 1 := by rw [hw4, ← hs3]; simp [World.setCell]
                have HQ4 : Hid (EB w4 w.heap.size (l.length + 1) (rwM l n x b) ∧ Below w.heap.size w w4 ∧ Bq 59 w4 wr.heap.size ⟨k1 + Q, k2 + 1, K⟩) := hide (by
                  rw [hw4]
                  exact ⟨own_eb HQ3.out.1 (r := some wr.heap.size) ⟨rfl, rfl, rfl, by simp, fun k' _ hne => Below.heap_setCell _ _ _ _ (by intro e; subst e; exact hne rfl)⟩ (by simp; omega), HQ3.out.2.1.setCell (by show w.heap.size ≤ wr.heap.size; omega) _, Bq.set0 (t := 59) HQ3.out.2.2 _⟩)
                have HC : Hid (cnd l n (bE1 l n) x c = ⟨k1 + Q, k2 + 1, c⟩) := hide (by rw [hcn.out, if_pos hcl2, HSQ.out])
                have hE1 : k1 + Q ≤ 2000000 := by omega
                have HE1 : Hid (((k1 + Q : Nat) : Int) = (k1 : Int) + (Q : Int)) := hide (by omega)
                rw [hw4] at HQ4 hs4
                clear hw4 hQ8
                have hmvs : w.heap.size < (w3.setCell ⟨wr.heap.size, 0, none⟩ (.int .i64 ((k1 : Int) + (Q : Int)))).heap.size := by rw [hs4]; omega
                have f3 := HQ3.out.1.blk.fz
                clear HQ3
                obtain ⟨b1, b2, b3⟩ := b
                obtain ⟨d3, hd3⟩ : ∃ d3, d3 = b3 - x := ⟨_, rfl⟩
                obtain ⟨r0, r1, r2⟩ := HQ4.out.1.c x (by omega)
                rw [show rwM l n x ⟨b1, b2, b3⟩ x = ⟨b1, b2, d3⟩ by unfold rwM md; rw [if_pos rfl, hd3]] at r0 r1 r2
                replace r0 : (w3.setCell ⟨wr.heap.size, 0, none⟩ (.int .i64 ((k1 : Int) + (Q : Int)))).cell? ⟨w.heap.size, x * 3, none⟩ = some (.int .i64 (b1 : Int)) := r0
                replace r1 : (w3.setCell ⟨wr.heap.size, 0, none⟩ (.int .i64 ((k1 : Int) + (Q : Int)))).cell? ⟨w.heap.size, x * 3 + 1, none⟩ = some (.int .i64 (b2 : Int)) := r1
                replace r2 : (w3.setCell ⟨wr.heap.size, 0, none⟩ (.int .i64 ((k1 : Int) + (Q : Int)))).cell? ⟨w.heap.size, x * 3 + 2, none⟩ = some (.int .i64 (d3 : Int)) := r2
                have hb5 : Below (w3.setCell ⟨wr.heap.size, 0, none⟩ (.int .i64 ((k1 : Int) + (Q : Int)))).heap.size (w3.setCell ⟨wr.heap.size, 0, none⟩ (.int .i64 ((k1 : Int) + (Q : Int)))) ((w3.setCell ⟨wr.heap.size, 0, none⟩ (.int .i64 ((k1 : Int) + (Q : Int)))).alloc (.cells #[.int .i64 (b1 : Int), .int .i64 (b2 : Int), .int .i64 (d3 : Int)] 59)) := (Below.refl _ _).alloc (Nat.le_refl _) _
                have K5 := HQ4.out.1.later hb5
                have B5 : Below w.heap.size w ((w3.setCell ⟨wr.heap.size, 0, none⟩ (.int .i64 ((k1 : Int) + (Q : Int)))).alloc (.cells #[.int .i64 (b1 : Int), .int .i64 (b2 : Int), .int .i64 (d3 : Int)] 59)) := HQ4.out.2.1.trans (hb5.mono HQ4.out.2.1.size)
                obtain ⟨s0, s1, s2⟩ := (HQ4.out.2.2.later hb5).cells
                have o5 := bq_new 59 (w3.setCell ⟨wr.heap.size, 0, none⟩ (.int .i64 ((k1 : Int) + (Q : Int)))) ⟨b1, b2, d3⟩
                rw [hs4] at o5
                obtain ⟨t0, t1, t2⟩ := Bq.cells (t := 59) o5
                replace t0 : ((w3.setCell ⟨wr.heap.size, 0, none⟩ (.int .i64 ((k1 : Int) + (Q : Int)))).alloc (.cells #[.int .i64 (b1 : Int), .int .i64 (b2 : Int), .int .i64 (d3 : Int)] 59)).cell? ⟨wr.heap.size + 1, 0, none⟩ = some (.int .i64 (b1 : Int)) := t0
                replace t1 : ((w3.setCell ⟨wr.heap.size, 0, none⟩ (.int .i64 ((k1 : Int) + (Q : Int)))).alloc (.cells #[.int .i64 (b1 : Int), .int .i64 (b2 : Int), .int .i64 (d3 : Int)] 59)).cell? ⟨wr.heap.size + 1, 1, none⟩ = some (.int .i64 (b2 : Int)) := t1
                replace t2 : ((w3.setCell ⟨wr.heap.size, 0, none⟩ (.int .i64 ((k1 : Int) + (Q : Int)))).alloc (.cells #[.int .i64 (b1 : Int), .int .i64 (b2 : Int), .int .i64 (d3 : Int)] 59)).cell? ⟨wr.heap.size + 1, 2, none⟩ = some (.int .i64 (d3 : Int)) := t2
                replace s0 : ((w3.setCell ⟨wr.heap.size, 0, none⟩ (.int .i64 ((k1 : Int) + (Q : Int)))).alloc (.cells #[.int .i64 (b1 : Int), .int .i64 (b2 : Int), .int .i64 (d3 : Int)] 59)).cell? ⟨wr.heap.size, 0, none⟩ = some (.int .i64 ((k1 : Int) + (Q : Int))) := s0
                replace s1 : ((w3.setCell ⟨wr.heap.size, 0, none⟩ (.int .i64 ((k1 : Int) + (Q : Int)))).alloc (.cells #[.int .i64 (b1 : Int), .int .i64 (b2 : Int), .int .i64 (d3 : Int)] 59)).cell? ⟨wr.heap.size, 1, none⟩ = some (.int .i64 ((k2 : Int) + 1)) := s1
                replace s2 : ((w3.setCell ⟨wr.heap.size, 0, none⟩ (.int .i64 ((k1 : Int) + (Q : Int)))).alloc (.cells #[.int .i64 (b1 : Int), .int .i64 (b2 : Int), .int .i64 (d3 : Int)] 59)).cell? ⟨wr.heap.size, 2, none⟩ = some (.int .i64 (K : Int)) := s2
                obtain ⟨r0', r1', r2'⟩ := K5.c x (by omega)
                have f0 := K5.blk.fz (x * 3)
                have f1 := K5.blk.fz (x * 3 + 1)
                have f2 := K5.blk.fz (x * 3 + 2)
                have HY : Hid (EB (((((w3.setCell ⟨wr.heap.size, 0, none⟩ (.int .i64 ((k1 : Int) + (Q : Int)))).alloc (.cells #[.int .i64 (b1 : Int), .int .i64 (b2 : Int), .int .i64 (d3 : Int)] 59)).setCell ⟨w.heap.size, x * 3, none⟩ (.int .i64 ((k1 : Int) + (Q : Int)))).setCell ⟨w.heap.size, x * 3 + 1, none⟩ (.int .i64 ((k2 : Int) + 1))).setCell ⟨w.heap.size, x * 3 + 2, none⟩ (.int .i64 (K : Int))) w.heap.size (l.length + 1) (rwM l n x ⟨(k1 + Q), k2 + 1, c⟩) ∧ Below w.heap.size w (((((w3.setCell ⟨wr.heap.size, 0, none⟩ (.int .i64 ((k1 : Int) + (Q : Int)))).alloc (.cells #[.int .i64 (b1 : Int), .int .i64 (b2 : Int), .int .i64 (d3 : Int)] 59)).setCell ⟨w.heap.size, x * 3, none⟩ (.int .i64 ((k1 : Int) + (Q : Int)))).setCell ⟨w.heap.size, x * 3 + 1, none⟩ (.int .i64 ((k2 : Int) + 1))).setCell ⟨w.heap.size, x * 3 + 2, none⟩ (.int .i64 (K : Int)))) := hide ⟨(K5.set (by omega) ⟨(k1 + Q), k2 + 1, K⟩).congr (fun i hi => by
                  rw [← rwM_set l n x ⟨b1, b2, b3⟩ ⟨(k1 + Q), k2 + 1, c⟩ i]
                  congr 1
                  unfold md
                  rw [show c - x = K by have := HCd.out; have := HK.out; omega]), ((B5.setCell (Nat.le_refl _) _).setCell (Nat.le_refl _) _).setCell (Nat.le_refl _) _⟩
                have HY2 := hide (mv3' (P := fun W => EB W w.heap.size (l.length + 1) (rwM l n x ⟨(k1 + Q), k2 + 1, c⟩)) (Q := fun W => Below w.heap.size w W) hmvs HY.out)
                have HNo : Hid (EB ((w3.setCell ⟨wr.heap.size, 0, none⟩ (.int .i64 ((k1 : Int) + (Q : Int)))).alloc (.cells #[.int .i64 (b1 : Int), .int .i64 (b2 : Int), .int .i64 (d3 : Int)] 59)) w.heap.size (l.length + 1) (rwM l n x ⟨b1, b2, b3⟩) ∧ Below w.heap.size w ((w3.setCell ⟨wr.heap.size, 0, none⟩ (.int .i64 ((k1 : Int) + (Q : Int)))).alloc (.cells #[.int .i64 (b1 : Int), .int .i64 (b2 : Int), .int .i64 (d3 : Int)] 59))) := hide ⟨K5, B5⟩
                have HOK2 : Hid (okE x ⟨(k1 + Q), k2 + 1, c⟩) := hide (.inr ⟨Nat.succ_pos _, hxc⟩)
                have HOKb := HOK.out
                clear hb5 K5 B5 o5 HQ4 hmvs
                by_cases hz3 : d3 = 0
                · have hb0 : b2 = 0 := by
                    rcases HOKb with ⟨h1, h2⟩ | ⟨h1, h2⟩
                    · exact h1
                    · have : x < b3 := h2
                      omega
                  have HT1 : Hid (mF l n (bE1 l n) x (l.length - x) ez = mF l n (bE1 l n) x q ⟨(k1 + Q), k2 + 1, c⟩) := hide (by rw [HM2.out, HC.out]; unfold tkM; rw [if_pos (.inl hb0)])
                  have hzz : ((d3 : Int) == 0) = true := by simp; omega
                  clear hb0 HOKb hd3 hz3
                  go_wp2
                  first | exact ⟨⟨q, by have := HK.out; omega, by first | rfl | (rw [hq1]) | go_num, _, HT1, HOK2, HY⟩, by simp [intOf]; have := HK.out; omega⟩ | exact ⟨⟨q, by have := HK.out; omega, by first | rfl | (rw [hq1]) | go_num, _, HT1, HOK2, HY2⟩, by simp [intOf]; have := HK.out; omega⟩
                · have hb0 : ¬ b2 = 0 := by
                    rcases HOKb with ⟨h1, h2⟩ | ⟨h1, h2⟩
                    · have : b3 - x = 0 := h2
                      omega
                    · have : 0 < b2 := h1
                      omega
                  have hzz : ((d3 : Int) == 0) = false := by simp; omega
                  have HTy : Hid (blw ⟨(k1 + Q), k2 + 1, c⟩ ⟨b1, b2, b3⟩ = true → mF l n (bE1 l n) x (l.length - x) ez = mF l n (bE1 l n) x q ⟨(k1 + Q), k2 + 1, c⟩) := hide (fun hq => by rw [HM2.out, HC.out]; unfold tkM; rw [if_pos (.inr hq)])
                  have HTn : Hid (blw ⟨(k1 + Q), k2 + 1, c⟩ ⟨b1, b2, b3⟩ = false → mF l n (bE1 l n) x (l.length - x) ez = mF l n (bE1 l n) x q ⟨b1, b2, b3⟩) := hide (fun hq => by rw [HM2.out, HC.out]; unfold tkM; rw [if_neg (fun e => by rcases e with e | e; exact hb0 e; rw [hq] at e; cases e)])
                  clear HOKb hd3
                  by_cases hl1 : (k1 + Q) < b1
                  · have hT := hide (HTy.out (by unfold blw; rw [if_neg (by show ¬ (k1 + Q) = b1; omega)]; exact decide_eq_true hl1))
                    have hq1' : decide (((k1 : Int) + (Q : Int)) < (b1 : Int)) = true := by rw [decide_eq_true_iff]; omega
                    clear HTy HTn
                    go_wp2
                    first | exact ⟨⟨q, by have := HK.out; omega, by first | rfl | (rw [hq1]) | go_num, _, hT, HOK2, HY⟩, by simp [intOf]; have := HK.out; omega⟩ | exact ⟨⟨q, by have := HK.out; omega, by first | rfl | (rw [hq1]) | go_num, _, hT, HOK2, HY2⟩, by simp [intOf]; have := HK.out; omega⟩
                  · have hq1' : decide (((k1 : Int) + (Q : Int)) < (b1 : Int)) = false := by rw [decide_eq_false_iff_not]; omega
                    by_cases hl2 : (k1 + Q) = b1
                    · have hq2' : (((k1 : Int) + (Q : Int)) == (b1 : Int)) = true := by simp; omega
                      by_cases hl3 : k2 + 1 < b2
                      · have hT := hide (HTy.out (by unfold blw; rw [if_pos (show (k1 + Q) = b1 from hl2)]; exact decide_eq_true hl3))
                        have hq3' : decide ((k2 : Int) + 1 < (b2 : Int)) = true := by rw [decide_eq_true_iff]; omega
                        clear HTy HTn hl2
                        go_wp2
                        first | exact ⟨⟨q, by have := HK.out; omega, by first | rfl | (rw [hq1]) | go_num, _, hT, HOK2, HY⟩, by simp [intOf]; have := HK.out; omega⟩ | exact ⟨⟨q, by have := HK.out; omega, by first | rfl | (rw [hq1]) | go_num, _, hT, HOK2, HY2⟩, by simp [intOf]; have := HK.out; omega⟩
                      · have hT := hide (HTn.out (by unfold blw; rw [if_pos (show (k1 + Q) = b1 from hl2)]; exact decide_eq_false hl3))
                        have hq3' : decide ((k2 : Int) + 1 < (b2 : Int)) = false := by rw [decide_eq_false_iff_not]; omega
                        clear HTy HTn hl2
                        go_wp2
                        exact ⟨⟨q, by have := HK.out; omega, by first | rfl | (rw [hq1]) | go_num, _, hT, HOK, HNo⟩, by simp [intOf]; have := HK.out; omega⟩
                    · have hq2' : (((k1 : Int) + (Q : Int)) == (b1 : Int)) = false := by simp; omega
                      have hT := hide (HTn.out (by unfold blw; rw [if_neg (show ¬ (k1 + Q) = b1 from hl2)]; exact decide_eq_false hl1))
                      clear HTy HTn
                      go_wp2
                      exact ⟨⟨q, by have := HK.out; omega, by first | rfl | (rw [hq1]) | go_num, _, hT, HOK, HNo⟩, by simp [intOf]; have := HK.out; omega⟩
              · have hdc : decide ((c : Int) < (l.length : Int)) = false := by rw [decide_eq_false_iff_not]; omega
                have HQ4 := HQ3
                have hs4 := hs3
                have HC : Hid (cnd l n (bE1 l n) x c = ⟨k1, k2 + 1, c⟩) := hide (by rw [hcn.out, if_neg hcl2]; rfl)
                have hmvs : w.heap.size < w3.heap.size := by rw [hs4]; omega
                have f3 := HQ3.out.1.blk.fz
                clear HQ3
                obtain ⟨b1, b2, b3⟩ := b
                obtain ⟨d3, hd3⟩ : ∃ d3, d3 = b3 - x := ⟨_, rfl⟩
                obtain ⟨r0, r1, r2⟩ := HQ4.out.1.c x (by omega)
                rw [show rwM l n x ⟨b1, b2, b3⟩ x = ⟨b1, b2, d3⟩ by unfold rwM md; rw [if_pos rfl, hd3]] at r0 r1 r2
                replace r0 : w3.cell? ⟨w.heap.size, x * 3, none⟩ = some (.int .i64 (b1 : Int)) := r0
                replace r1 : w3.cell? ⟨w.heap.size, x * 3 + 1, none⟩ = some (.int .i64 (b2 : Int)) := r1
                replace r2 : w3.cell? ⟨w.heap.size, x * 3 + 2, none⟩ = some (.int .i64 (d3 : Int)) := r2
                have hb5 : Below w3.heap.size w3 (w3.alloc (.cells #[.int .i64 (b1 : Int), .int .i64 (b2 : Int), .int .i64 (d3 : Int)] 59)) := (Below.refl _ _).alloc (Nat.le_refl _) _
                have K5 := HQ4.out.1.later hb5
                have B5 : Below w.heap.size w (w3.alloc (.cells #[.int .i64 (b1 : Int), .int .i64 (b2 : Int), .int .i64 (d3 : Int)] 59)) := HQ4.out.2.1.trans (hb5.mono HQ4.out.2.1.size)
                obtain ⟨s0, s1, s2⟩ := (HQ4.out.2.2.later hb5).cells
                have o5 := bq_new 59 w3 ⟨b1, b2, d3⟩
                rw [hs4] at o5
                obtain ⟨t0, t1, t2⟩ := Bq.cells (t := 59) o5
                replace t0 : (w3.alloc (.cells #[.int .i64 (b1 : Int), .int .i64 (b2 : Int), .int .i64 (d3 : Int)] 59)).cell? ⟨wr.heap.size + 1, 0, none⟩ = some (.int .i64 (b1 : Int)) := t0
                replace t1 : (w3.alloc (.cells #[.int .i64 (b1 : Int), .int .i64 (b2 : Int), .int .i64 (d3 : Int)] 59)).cell? ⟨wr.heap.size + 1, 1, none⟩ = some (.int .i64 (b2 : Int)) := t1
                replace t2 : (w3.alloc (.cells #[.int .i64 (b1 : Int), .int .i64 (b2 : Int), .int .i64 (d3 : Int)] 59)).cell? ⟨wr.heap.size + 1, 2, none⟩ = some (.int .i64 (d3 : Int)) := t2
                replace s0 : (w3.alloc (.cells #[.int .i64 (b1 : Int), .int .i64 (b2 : Int), .int .i64 (d3 : Int)] 59)).cell? ⟨wr.heap.size, 0, none⟩ = some (.int .i64 (k1 : Int)) := s0
                replace s1 : (w3.alloc (.cells #[.int .i64 (b1 : Int), .int .i64 (b2 : Int), .int .i64 (d3 : Int)] 59)).cell? ⟨wr.heap.size, 1, none⟩ = some (.int .i64 ((k2 : Int) + 1)) := s1
                replace s2 : (w3.alloc (.cells #[.int .i64 (b1 : Int), .int .i64 (b2 : Int), .int .i64 (d3 : Int)] 59)).cell? ⟨wr.heap.size, 2, none⟩ = some (.int .i64 (K : Int)) := s2
                obtain ⟨r0', r1', r2'⟩ := K5.c x (by omega)
                have f0 := K5.blk.fz (x * 3)
                have f1 := K5.blk.fz (x * 3 + 1)
                have f2 := K5.blk.fz (x * 3 + 2)
                have HY : Hid (EB ((((w3.alloc (.cells #[.int .i64 (b1 : Int), .int .i64 (b2 : Int), .int .i64 (d3 : Int)] 59)).setCell ⟨w.heap.size, x * 3, none⟩ (.int .i64 (k1 : Int))).setCell ⟨w.heap.size, x * 3 + 1, none⟩ (.int .i64 ((k2 : Int) + 1))).setCell ⟨w.heap.size, x * 3 + 2, none⟩ (.int .i64 (K : Int))) w.heap.size (l.length + 1) (rwM l n x ⟨k1, k2 + 1, c⟩) ∧ Below w.heap.size w ((((w3.alloc (.cells #[.int .i64 (b1 : Int), .int .i64 (b2 : Int), .int .i64 (d3 : Int)] 59)).setCell ⟨w.heap.size, x * 3, none⟩ (.int .i64 (k1 : Int))).setCell ⟨w.heap.size, x * 3 + 1, none⟩ (.int .i64 ((k2 : Int) + 1))).setCell ⟨w.heap.size, x * 3 + 2, none⟩ (.int .i64 (K : Int)))) := hide ⟨(K5.set (by omega) ⟨k1, k2 + 1, K⟩).congr (fun i hi => by
                  rw [← rwM_set l n x ⟨b1, b2, b3⟩ ⟨k1, k2 + 1, c⟩ i]
                  congr 1
                  unfold md
                  rw [show c - x = K by have := HCd.out; have := HK.out; omega]), ((B5.setCell (Nat.le_refl _) _).setCell (Nat.le_refl _) _).setCell (Nat.le_refl _) _⟩
                have HY2 := hide (mv3' (P := fun W => EB W w.heap.size (l.length + 1) (rwM l n x ⟨k1, k2 + 1, c⟩)) (Q := fun W => Below w.heap.size w W) hmvs HY.out)
                have HNo : Hid (EB (w3.alloc (.cells #[.int .i64 (b1 : Int), .int .i64 (b2 : Int), .int .i64 (d3 : Int)] 59)) w.heap.size (l.length + 1) (rwM l n x ⟨b1, b2, b3⟩) ∧ Below w.heap.size w (w3.alloc (.cells #[.int .i64 (b1 : Int), .int .i64 (b2 : Int), .int .i64 (d3 : Int)] 59))) := hide ⟨K5, B5⟩
                have HOK2 : Hid (okE x ⟨k1, k2 + 1, c⟩) := hide (.inr ⟨Nat.succ_pos _, hxc⟩)
                have HOKb := HOK.out
                clear hb5 K5 B5 o5 HQ4 hmvs
                by_cases hz3 : d3 = 0
                · have hb0 : b2 = 0 := by
                    rcases HOKb with ⟨h1, h2⟩ | ⟨h1, h2⟩
                    · exact h1
                    · have : x < b3 := h2
                      omega
                  have HT1 : Hid (mF l n (bE1 l n) x (l.length - x) ez = mF l n (bE1 l n) x q ⟨k1, k2 + 1, c⟩) := hide (by rw [HM2.out, HC.out]; unfold tkM; rw [if_pos (.inl hb0)])
                  have hzz : ((d3 : Int) == 0) = true := by simp; omega
                  clear hb0 HOKb hd3 hz3
                  go_wp2
                  first | exact ⟨⟨q, by have := HK.out; omega, by first | rfl | (rw [hq1]) | go_num, _, HT1, HOK2, HY⟩, by simp [intOf]; have := HK.out; omega⟩ | exact ⟨⟨q, by have := HK.out; omega, by first | rfl | (rw [hq1]) | go_num, _, HT1, HOK2, HY2⟩, by simp [intOf]; have := HK.out; omega⟩
                · have hb0 : ¬ b2 = 0 := by
                    rcases HOKb with ⟨h1, h2⟩ | ⟨h1, h2⟩
                    · have : b3 - x = 0 := h2
                      omega
                    · have : 0 < b2 := h1
                      omega
                  have hzz : ((d3 : Int) == 0) = false := by simp; omega
                  have HTy : Hid (blw ⟨k1, k2 + 1, c⟩ ⟨b1, b2, b3⟩ = true → mF l n (bE1 l n) x (l.length - x) ez = mF l n (bE1 l n) x q ⟨k1, k2 + 1, c⟩) := hide (fun hq => by rw [HM2.out, HC.out]; unfold tkM; rw [if_pos (.inr hq)])
                  have HTn : Hid (blw ⟨k1, k2 + 1, c⟩ ⟨b1, b2, b3⟩ = false → mF l n (bE1 l n) x (l.length - x) ez = mF l n (bE1 l n) x q ⟨b1, b2, b3⟩) := hide (fun hq => by rw [HM2.out, HC.out]; unfold tkM; rw [if_neg (fun e => by rcases e with e | e; exact hb0 e; rw [hq] at e; cases e)])
                  clear HOKb hd3
                  by_cases hl1 : k1 < b1
                  · have hT := hide (HTy.out (by unfold blw; rw [if_neg (by show ¬ k1 = b1; omega)]; exact decide_eq_true hl1))
                    have hq1' : decide ((k1 : Int) < (b1 : Int)) = true := by rw [decide_eq_true_iff]; omega
                    clear HTy HTn
                    go_wp2
                    first | exact ⟨⟨q, by have := HK.out; omega, by first | rfl | (rw [hq1]) | go_num, _, hT, HOK2, HY⟩, by simp [intOf]; have := HK.out; omega⟩ | exact ⟨⟨q, by have := HK.out; omega, by first | rfl | (rw [hq1]) | go_num, _, hT, HOK2, HY2⟩, by simp [intOf]; have := HK.out; omega⟩
                  · have hq1' : decide ((k1 : Int) < (b1 : Int)) = false := by rw [decide_eq_false_iff_not]; omega
                    by_cases hl2 : k1 = b1
                    · have hq2' : ((k1 : Int) == (b1 : Int)) = true := by simp; omega
                      by_cases hl3 : k2 + 1 < b2
                      · have hT := hide (HTy.out (by unfold blw; rw [if_pos (show k1 = b1 from hl2)]; exact decide_eq_true hl3))
                        have hq3' : decide ((k2 : Int) + 1 < (b2 : Int)) = true := by rw [decide_eq_true_iff]; omega
                        clear HTy HTn hl2
                        go_wp2
                        first | exact ⟨⟨q, by have := HK.out; omega, by first | rfl | (rw [hq1]) | go_num, _, hT, HOK2, HY⟩, by simp [intOf]; have := HK.out; omega⟩ | exact ⟨⟨q, by have := HK.out; omega, by first | rfl | (rw [hq1]) | go_num, _, hT, HOK2, HY2⟩, by simp [intOf]; have := HK.out; omega⟩
                      · have hT := hide (HTn.out (by unfold blw; rw [if_pos (show k1 = b1 from hl2)]; exact decide_eq_false hl3))
                        have hq3' : decide ((k2 : Int) + 1 < (b2 : Int)) = false := by rw [decide_eq_false_iff_not]; omega
                        clear HTy HTn hl2
                        go_wp2
                        exact ⟨⟨q, by have := HK.out; omega, by first | rfl | (rw [hq1]) | go_num, _, hT, HOK, HNo⟩, by simp [intOf]; have := HK.out; omega⟩
                    · have hq2' : ((k1 : Int) == (b1 : Int)) = false := by simp; omega
                      have hT := hide (HTn.out (by unfold blw; rw [if_neg (show ¬ k1 = b1 from hl2)]; exact decide_eq_false hl1))
                      clear HTy HTn
                      go_wp2
                      exact ⟨⟨q, by have := HK.out; omega, by first | rfl | (rw [hq1]) | go_num, _, hT, HOK, HNo⟩, by simp [intOf]; have := HK.out; omega⟩
            · have HM2 : Hid (mF l n (bE1 l n) x (l.length - x) ez = mF l n (bE1 l n) x q b) := hide (by rw [HM.out, HMs.out, hSw, if_neg hfit])
              have hds : decide (n < (S.size : Int)) = true := by rw [decide_eq_true_iff]; omega
              clear hc hS hSw hK HMs hfit
              go_wp2_with (go_at_call 42; refine J.out.mono ?_; rintro e w9 ⟨rfl, hw'⟩; replace hw' := hw'.symm; subst hw')
              exact ⟨⟨q, by have := HK.out; omega, by first | rfl | (rw [hq1]) | go_num, b, HM2, HOK, HR⟩, by simp [intOf]; have := HK.out; omega⟩
  · have hd2 : said l n = false := by simpa using hd
    rw [hd2] at E
    have hg : bsT l n = ([], 0, false) := by unfold bsT; rw [if_neg hd]
    rw [hg]
    clear h hs hd hg hd2
    go_enter Tryd.func18, Tryd.ntmps18
    go_wp2_with (go_at_call 37; refine E.out.mono ?_; rintro e w1 ⟨rfl, hw'⟩; replace hw' := hw'.symm; subst hw')
    go_ret3
    exact ⟨_, rfl, World.ownsRow_nil _ _ _ _, Below.refl _ _⟩
end Go.Proofs.YtgacajnljplmiaaDoor
