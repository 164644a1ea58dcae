/- Lines broken at cuts: the model's. -/
import Derived.Test.YtgacajnljplmiaaDoorLinb
set_option linter.unusedVariables false
namespace Go.Proofs.YtgacajnljplmiaaDoor
open Go.RowKit
open Doc1

def toN (cs : List Int) : List Nat := cs.map Int.toNat
theorem toN_take {cs : List Int} {k : Nat} (h : k < cs.length) : toN (cs.take (k + 1)) = toN (cs.take k) ++ [cs[k].toNat] := by unfold toN; rw [List.take_succ_eq_append_getElem h, List.map_append]; rfl

set_option maxRecDepth 100000 in
set_option maxHeartbeats 4000000 in
theorem breakS_any (l : List ByteArray) (cs : List Int) (n : Int) (a ac : Option Addr) (cap capc : Nat) (w : World) (h : StIn w a cap l) (hs : ∀ s ∈ l, s.size ≤ 1048576) (hn : NuIn w ac capc cs) (hr : ∀ j (hj : j < cs.length), -9223372036854775808 ≤ cs[j] ∧ cs[j] ≤ 9223372036854775807) (hl : cs.length ≤ 10000000) (hll0 : l.length ≤ 10000000) :
    Calls Tryd.prog 20 #[.slice a l.length cap, .slice ac cs.length capc, .int .i64 n] w (LbPost (brL l cs n).1 (brL l cs n).2 w) := by
  obtain ⟨i0, hi0, hz0, hz1, hz2⟩ := info_parts Tryd.infoStr
  have E := hide (l13Said_any l n a cap w h hs hll0)
  obtain ⟨R, hR⟩ : ∃ R, R = brL l cs n := ⟨_, rfl⟩
  rw [← hR]
  unfold brL at hR
  have hll := h.c1
  have hlc := h.c2
  unfold maxLen at hlc
  by_cases hd : said l n = true
  · rw [hd] at E
    have hsd := said_iff.1 hd
    have hl6 := hsd.len
    have HD := hide hsd
    have HRn : Hid (vc l.length 0 cs = false → R = ([], false)) := hide (fun c => by rw [hR, if_neg (fun e => by rw [e.2.1] at c; cases c)])
    have HRy : Hid (vc l.length 0 cs = true → fits (lnE l 0 (cutE l (toN cs))) n = true → R = (lnE l 0 (cutE l (toN cs)), true)) := hide (fun c d => by rw [hR, if_pos ⟨hd, c, d⟩]; rfl)
    have HRf : Hid (fits (lnE l 0 (cutE l (toN cs))) n = false → R = ([], false)) := hide (fun c => by rw [hR, if_neg (fun e => by rw [show fits (lnE l 0 (cutE l (toN cs))) n = true from e.2.2] at c; cases c)])
    have H := hide h
    have HN := hide hn.ce
    have HB0 := hide hr
    have LO : Hid (∀ (g o x y : Nat) (w' : World), StIn w' (some ⟨g, o, none⟩) cap l → x ≤ y → y ≤ l.length → Calls Tryd.prog 42 #[.slice (some ⟨g, o + x, none⟩) (y - x) (cap - x)] w' fun e w'' => e = .returned (.string (jn (Doc1.sl l x y))) ∧ w'' = w') := hide (fun g o x y w' hx h1 h2 => by
      have := l13Join_any (Doc1.sl l x y) _ _ w' (hx.sl x y h1 h2) (by have := tt_sl l x y; have := hsd.tt_le; omega) (by rw [sl_len h2]; omega)
      rw [sl_len h2] at this
      exact this)
    have I : Hid (∀ (c : Int) w', Calls Tryd.prog 44 #[.int .i64 c, .int .i64 1, .int .i64 ((l.length : Int) - 1)] w' fun e w'' => e = .returned (.bool (decide ((1 : Int) ≤ c ∧ c ≤ (l.length : Int) - 1))) ∧ w'' = w') := hide (fun c w' => l1In_any _ _ _ w')
    clear hR hd hsd h hs hn hr
    go_enter Tryd.func20, Tryd.ntmps20
    go_wp2_with (go_at_call 37; refine E.out.mono ?_; rintro e w1 ⟨rfl, hw'⟩; replace hw' := hw'.symm; subst hw')
    clear E
    go_loopw [8, 9, 20] (fun v va i wr => ∃ k x : Nat, k ≤ cs.length ∧ x ≤ 60 ∧ i = .int .i64 k ∧ va = .int .i64 (x : Int) ∧ ∃ v0, v0 = v ∧ Hid (vc l.length 0 cs = vc l.length (x : Int) (cs.drop k)) ∧ Hid ((toN (cs.take k)).getLastD 0 = x ∧ k ≤ x ∧ x ≤ l.length ∧ (0 < l.length → x < l.length) ∧ (∀ hk : 0 < k, ∃ hk2 : k - 1 < cs.length, cs[k - 1] = (x : Int))) ∧ Hid (SOwn wr w.heap.size v0 (lnE l 0 (toN (cs.take k))) ∧ Below w.heap.size w wr)) (fun _ _ i _ => cs.length - (intOf i).toNat)
    case atStart => exact ⟨0, 0, Nat.zero_le _, by omega, rfl, rfl, _, rfl, hide (by rw [List.drop_zero]; rfl), hide ⟨rfl, Nat.le_refl _, Nat.zero_le _, fun h => h, fun h => by omega⟩, hide ⟨World.ownsRow_nil _ _ _ _, Below.refl _ _⟩⟩
    case round =>
      obtain ⟨k, x, hk, hx6, rfl, rfl, v, hv0, HV, HX, HO⟩ := hrel
      subst hv0
      have hB := HO.out.2.size
      by_cases hlt : k < cs.length
      · obtain ⟨gc, oc, rfl, hgc, hcc⟩ := HN.out k hlt
        have c1 : wr.cell? ⟨gc, oc + k, none⟩ = some (.int .i64 cs[k]) := (World.cell?_of_block (HO.out.2.block gc hgc)).trans hcc
        have hst := hide (vc_at (n := l.length) (a := (x : Int)) hlt)
        have hbd := HB0.out k hlt
        have hto := hide (toN_take hlt)
        have hck : Hid (∀ c', cs[k] = c' → ∃ hk2 : k + 1 - 1 < cs.length, cs[k + 1 - 1] = c') := hide (fun c' h => ⟨by omega, by rw [← h]; rfl⟩)
        obtain ⟨c, hc⟩ : ∃ c, cs[k] = c := ⟨_, rfl⟩
        have hck2 := hide (hck.out c hc)
        rw [hc] at c1 hst hbd hto
        have hwl : IntKind.i64.wrap ((l.length : Int) - 1) = (l.length : Int) - 1 := by rw [IntKind.wrap_i64]; omega
        have I1 := hide (I.out c wr)
        by_cases hin : (1 : Int) ≤ c ∧ c ≤ (l.length : Int) - 1
        · rw [decide_eq_true hin] at I1
          by_cases hgd : x < c
          · -- a cut that is as said
            have HV2 : Hid (vc l.length 0 cs = vc l.length c (cs.drop (k + 1))) := hide (by rw [HV.out, hst.out, decide_eq_true ⟨hgd, by omega⟩]; rfl)
            obtain ⟨y, hy⟩ : ∃ y : Nat, c = (y : Int) := ⟨c.toNat, by omega⟩
            subst hy
            rw [Int.toNat_natCast] at hto
            have hxy : x < y ∧ y < l.length := by omega
            obtain ⟨g, o, rfl, hg, -⟩ := H.out.ce 0 (by omega)
            have hLn : Hid (lnE l 0 (toN (cs.take (k + 1))) = lnE l 0 (toN (cs.take k)) ++ [jn (Doc1.sl l x y)]) := hide (by rw [hto.out, lnE_snoc, HX.out.1])
            have HX2 : Hid ((toN (cs.take (k + 1))).getLastD 0 = y ∧ k + 1 ≤ y ∧ y ≤ l.length ∧ (0 < l.length → y < l.length) ∧ (∀ hk : 0 < k + 1, ∃ hk2 : k + 1 - 1 < cs.length, cs[k + 1 - 1] = (y : Int))) := hide ⟨by rw [hto.out]; simp, by have := HX.out.2.1; omega, by omega, fun _ => hxy.2, fun _ => hck2.out⟩
            have hsl := cut_mid g o l.length cap x y (by omega) (by omega) (by omega)
            have LO1 := hide (LO.out g o x y wr (H.out.later HO.out.2) (by omega) (by omega))
            have hlk : (lnE l 0 (toN (cs.take k))).length ≤ 60 := by
              rw [lnE_len]; unfold toN; rw [List.length_map, List.length_take]; have := HX.out.2.1; omega
            obtain ⟨S, hS⟩ : ∃ S, S = jn (Doc1.sl l x y) := ⟨_, rfl⟩
            rw [← hS] at LO1 hLn
            obtain ⟨M, hM⟩ : ∃ M, M = lnE l 0 (toN (cs.take k)) := ⟨_, rfl⟩
            rw [← hM] at hLn HO hlk
            have hxx := hxy.1
            have hyy := hxy.2
            by_cases h0 : k = 0
            · subst h0
              rw [Nat.add_zero] at c1
              clear hin hgd hc hcc hS hM hxy hst hto hck
              go_wp2_with (first
                | (go_at_call 44; refine I1.out.mono ?_; rintro e w' ⟨rfl, hw'⟩; replace hw' := hw'.symm; subst hw')
                | (go_at_call 42; refine LO1.out.mono ?_; rintro e w' ⟨rfl, hw'⟩; replace hw' := hw'.symm; subst hw')
                | (at_builtin; refine wpList_append_loc _ rfl _ _ 22 rfl w.heap.size 9 i0 (.string ⟨#[]⟩) 1 16 Tryd.underlying22 hi0 hz0 hz1 hz2 rfl (by decide) _ _ _ rfl (World.ownsRow.alloc HO.out.1 _) ⟨wr.heap.size, 0, none⟩ 1 1 [.string S] rfl rfl (World.news_of_block (cs := #[.string S]) (t := 9) (fr := (0, 0)) (heap_alloc_new wr _)) (by simp [Value.oneCell']) (by unfold maxLen; omega) (by omega) (by simp; omega) ?_; intro v3 w3 own3 grow3 loc3; have HR3 : Hid (SOwn w3 w.heap.size v3 (lnE l 0 (toN (cs.take (0 + 1)))) ∧ Below w.heap.size w w3) := hide ⟨(by rw [hLn.out]; exact SOwn.app1 own3), grown_belowB (HO.out.2.alloc hB _) (by simp; omega) (World.ownsRow.alloc HO.out.1 _) grow3⟩; clear own3 grow3 loc3))
              exact ⟨⟨0 + 1, y, by omega, by omega, by go_num, rfl, v3, rfl, HV2, HX2, HR3⟩, by simp [intOf]; omega⟩
            · obtain ⟨hk2, hpr⟩ := HX.out.2.2.2.2 (by omega)
              obtain ⟨gp, op, ep, hgp, hcp⟩ := HN.out (k - 1) hk2
              obtain ⟨e1, e2⟩ : gp = gc ∧ op = oc := by simpa [eq_comm] using ep
              subst e1 e2
              have c2 : wr.cell? ⟨gp, op + (k - 1), none⟩ = some (.int .i64 (x : Int)) := (World.cell?_of_block (HO.out.2.block gp hgp)).trans (by rw [hcp, hpr])
              have hwk : IntKind.i64.wrap ((k : Int) - 1) = ((k - 1 : Nat) : Int) := by rw [IntKind.wrap_i64]; omega
              have hkp : decide ((0 : Int) < (k : Int)) = true := by rw [decide_eq_true_iff]; omega
              have hge : decide ((y : Int) ≤ (x : Int)) = false := by rw [decide_eq_false_iff_not]; omega
              have hk3 : k - 1 < cs.length := hk2
              clear hin hgd hc hcc hS hM hxy hst hto hck hpr hcp ep hk2
              go_wp2_with (first
                | (go_at_call 44; refine I1.out.mono ?_; rintro e w' ⟨rfl, hw'⟩; replace hw' := hw'.symm; subst hw')
                | (go_at_call 42; refine LO1.out.mono ?_; rintro e w' ⟨rfl, hw'⟩; replace hw' := hw'.symm; subst hw')
                | (at_builtin; refine wpList_append_loc _ rfl _ _ 22 rfl w.heap.size 9 i0 (.string ⟨#[]⟩) 1 16 Tryd.underlying22 hi0 hz0 hz1 hz2 rfl (by decide) _ _ _ rfl (World.ownsRow.alloc HO.out.1 _) ⟨wr.heap.size, 0, none⟩ 1 1 [.string S] rfl rfl (World.news_of_block (cs := #[.string S]) (t := 9) (fr := (0, 0)) (heap_alloc_new wr _)) (by simp [Value.oneCell']) (by unfold maxLen; omega) (by omega) (by simp; omega) ?_; intro v3 w3 own3 grow3 loc3; have HR3 : Hid (SOwn w3 w.heap.size v3 (lnE l 0 (toN (cs.take (k + 1)))) ∧ Below w.heap.size w w3) := hide ⟨(by rw [hLn.out]; exact SOwn.app1 own3), grown_belowB (HO.out.2.alloc hB _) (by simp; omega) (World.ownsRow.alloc HO.out.1 _) grow3⟩; clear own3 grow3 loc3))
              exact ⟨⟨k + 1, y, by omega, by omega, by go_num, rfl, v3, rfl, HV2, HX2, HR3⟩, by simp [intOf]; omega⟩
          · have h0 : 0 < k := by
              rcases Nat.eq_zero_or_pos k with h0 | h0
              · subst h0
                have h1 : (toN (cs.take 0)).getLastD 0 = x := HX.out.1
                have : (0 : Nat) = x := h1
                omega
              · exact h0
            have HV2 : Hid (vc l.length 0 cs = false) := hide (by rw [HV.out, hst.out, decide_eq_false (fun e => hgd e.1)]; rfl)
            obtain ⟨hk2, hpr⟩ := HX.out.2.2.2.2 h0
            obtain ⟨gp, op, ep, hgp, hcp⟩ := HN.out (k - 1) hk2
            obtain ⟨e1, e2⟩ : gp = gc ∧ op = oc := by simpa [eq_comm] using ep
            subst e1 e2
            have c2 : wr.cell? ⟨gp, op + (k - 1), none⟩ = some (.int .i64 (x : Int)) := (World.cell?_of_block (HO.out.2.block gp hgp)).trans (by rw [hcp, hpr])
            have hwk : IntKind.i64.wrap ((k : Int) - 1) = ((k - 1 : Nat) : Int) := by rw [IntKind.wrap_i64]; omega
            have hkp : decide ((0 : Int) < (k : Int)) = true := by rw [decide_eq_true_iff]; omega
            have hge : decide (c ≤ (x : Int)) = true := by rw [decide_eq_true_iff]; omega
            have hk3 : k - 1 < cs.length := hk2
            clear hin hgd hc hcc hst hto hck hpr hcp ep hk2
            go_wp2_with (go_at_call 44; refine I1.out.mono ?_; rintro e w' ⟨rfl, hw'⟩; replace hw' := hw'.symm; subst hw')
            go_ret2
            rw [HRn.out HV2.out]
            exact ⟨_, rfl, World.ownsRow_nil _ _ _ _, HO.out.2⟩
        · rw [decide_eq_false hin] at I1
          have HV2 : Hid (vc l.length 0 cs = false) := hide (by rw [HV.out, hst.out, decide_eq_false (fun e => hin (by omega))]; rfl)
          clear hin hc hcc hst hto hck
          go_wp2_with (go_at_call 44; refine I1.out.mono ?_; rintro e w' ⟨rfl, hw'⟩; replace hw' := hw'.symm; subst hw')
          go_ret2
          rw [HRn.out HV2.out]
          exact ⟨_, rfl, World.ownsRow_nil _ _ _ _, HO.out.2⟩
      · have HV2 : vc l.length 0 cs = true := by rw [HV.out, List.drop_eq_nil_of_le (by omega)]; rfl
        have ek : cs.take k = cs := List.take_of_length_le (by omega)
        rw [ek] at HO HX
        have hL61 := cut_len HD.out HV2
        have HY := hide (HRy.out HV2)
        have hlk : (lnE l 0 (toN cs)).length ≤ 60 := by
          rw [lnE_len]; unfold toN; rw [List.length_map]; have := HX.out.2.1; have := HX.out.2.2.1; omega
        rw [show cs.map Int.toNat = toN cs from rfl] at hL61
        by_cases h0 : l.length = 0
        · have hLe : Hid (lnE l 0 (cutE l (toN cs)) = lnE l 0 (toN cs)) := hide (by unfold cutE; rw [if_pos h0, List.append_nil])
          obtain ⟨L, hL⟩ : ∃ L, L = lnE l 0 (cutE l (toN cs)) := ⟨_, rfl⟩
          rw [← hL] at hLe HY HRf hL61
          rw [← hLe.out] at HO
          have hdx : decide ((x : Int) < (l.length : Int)) = false := by rw [decide_eq_false_iff_not]; have := HX.out.2.2.1; omega
          obtain ⟨a3, c3, rfl, hs3⟩ := HO.out.1.st
          have HS3 := hide hs3.ce
          have hc31 := hs3.c1
          have hc32 := hs3.c2
          unfold maxLen at hc32
          obtain ⟨w3, rfl⟩ : ∃ w3, w3 = wr := ⟨_, rfl⟩
          have HR3 := hide HO.out
          have hx1 := HX.out.2.2.1
          clear HV HV2 ek hL hs3 HO
          go_wp2
          go_loopw [67] (fun i wq => ∃ k : Nat, k ≤ L.length ∧ i = .int .i64 k ∧ Hid (fits L n = fits (L.drop k) n) ∧ wq = w3) (fun i _ => L.length - (intOf i).toNat)
          case atStart => exact ⟨0, Nat.zero_le _, rfl, hide (by rw [List.drop_zero]), rfl⟩
          case round =>
            obtain ⟨q, hq, rfl, hz, hw0⟩ := hrel
            replace hw0 := hw0.symm
            subst hw0
            by_cases hlq : q < L.length
            · obtain ⟨gq, oq, rfl, hgq, hcq⟩ := HS3.out q hlq
              have hst := hide (fits_step (n := n) hlq)
              obtain ⟨s0, hs0⟩ : ∃ s0, L[q] = s0 := ⟨_, rfl⟩
              rw [hs0] at hcq hst
              clear hs0
              by_cases hf : (s0.size : Int) ≤ n
              · have HF : Hid (fits L n = fits (L.drop (q + 1)) n) := hide (by rw [hz.out, hst.out, decide_eq_true hf]; rfl)
                have hdf : decide (n < (s0.size : Int)) = false := by rw [decide_eq_false_iff_not]; omega
                go_wp2
                refine ⟨⟨q + 1, by omega, by go_num, HF, by first | rfl | trivial⟩, by simp [intOf]; omega⟩
              · have HF : Hid (fits L n = false) := hide (by rw [hz.out, hst.out, decide_eq_false hf]; rfl)
                have hdf : decide (n < (s0.size : Int)) = true := by rw [decide_eq_true_iff]; omega
                go_wp2
                go_ret2
                rw [HRf.out HF.out]
                exact ⟨_, rfl, World.ownsRow_nil _ _ _ _, HR3.out.2⟩
            · have HF : Hid (fits L n = true) := hide (by rw [hz.out, fits_end (by omega)])
              go_wp2
              go_ret2
              rw [HY.out HF.out]
              exact ⟨_, rfl, HR3.out.1, HR3.out.2⟩
        · have hxl : x < l.length := HX.out.2.2.2.1 (by omega)
          have hLe : Hid (lnE l 0 (cutE l (toN cs)) = lnE l 0 (toN cs) ++ [jn (Doc1.sl l x l.length)]) := hide (by unfold cutE; rw [if_neg h0, lnE_snoc, HX.out.1])
          obtain ⟨L, hL⟩ : ∃ L, L = lnE l 0 (cutE l (toN cs)) := ⟨_, rfl⟩
          rw [← hL] at hLe HY HRf hL61
          have hLn := hLe
          obtain ⟨M, hM⟩ : ∃ M, M = lnE l 0 (toN cs) := ⟨_, rfl⟩
          rw [← hM] at hLn HO hlk
          obtain ⟨g, o, rfl, hg, -⟩ := H.out.ce 0 (by omega)
          have hsl := cut_from g o l.length cap x (by omega) (by omega)
          have LO1 := hide (LO.out g o x l.length wr (H.out.later HO.out.2) (by omega) (by omega))
          obtain ⟨S, hS⟩ : ∃ S, S = jn (Doc1.sl l x l.length) := ⟨_, rfl⟩
          rw [← hS] at LO1 hLn
          have hdx : decide ((x : Int) < (l.length : Int)) = true := by rw [decide_eq_true_iff]; omega
          have b2 : (x : Int) ≤ (l.length : Int) := by omega
          clear HV HV2 ek hL hLe hM hS
          go_wp2_with (first
            | (go_at_call 42; refine LO1.out.mono ?_; rintro e w' ⟨rfl, hw'⟩; replace hw' := hw'.symm; subst hw')
            | (at_builtin; refine wpList_append_loc _ rfl _ _ 22 rfl w.heap.size 9 i0 (.string ⟨#[]⟩) 1 16 Tryd.underlying22 hi0 hz0 hz1 hz2 rfl (by decide) _ _ _ rfl (World.ownsRow.alloc HO.out.1 _) ⟨wr.heap.size, 0, none⟩ 1 1 [.string S] rfl rfl (World.news_of_block (cs := #[.string S]) (t := 9) (fr := (0, 0)) (heap_alloc_new wr _)) (by simp [Value.oneCell']) (by unfold maxLen; omega) (by omega) (by simp; omega) ?_; intro v3 w3 own3 grow3 loc3; have HR3 : Hid (SOwn w3 w.heap.size v3 L ∧ Below w.heap.size w w3) := hide ⟨(by rw [hLn.out]; exact SOwn.app1 own3), grown_belowB (HO.out.2.alloc hB _) (by simp; omega) (World.ownsRow.alloc HO.out.1 _) grow3⟩; clear own3 grow3 loc3; obtain ⟨a3, c3, rfl, hs3⟩ := HR3.out.1.st; have HS3 := hide hs3.ce; have hc31 := hs3.c1; have hc32 := hs3.c2; unfold maxLen at hc32; clear hs3 HO))
          go_loopw [67] (fun i wq => ∃ k : Nat, k ≤ L.length ∧ i = .int .i64 k ∧ Hid (fits L n = fits (L.drop k) n) ∧ wq = w3) (fun i _ => L.length - (intOf i).toNat)
          case atStart => exact ⟨0, Nat.zero_le _, rfl, hide (by rw [List.drop_zero]), rfl⟩
          case round =>
            obtain ⟨q, hq, rfl, hz, hw0⟩ := hrel
            replace hw0 := hw0.symm
            subst hw0
            by_cases hlq : q < L.length
            · obtain ⟨gq, oq, rfl, hgq, hcq⟩ := HS3.out q hlq
              have hst := hide (fits_step (n := n) hlq)
              obtain ⟨s0, hs0⟩ : ∃ s0, L[q] = s0 := ⟨_, rfl⟩
              rw [hs0] at hcq hst
              clear hs0
              by_cases hf : (s0.size : Int) ≤ n
              · have HF : Hid (fits L n = fits (L.drop (q + 1)) n) := hide (by rw [hz.out, hst.out, decide_eq_true hf]; rfl)
                have hdf : decide (n < (s0.size : Int)) = false := by rw [decide_eq_false_iff_not]; omega
                go_wp2
                refine ⟨⟨q + 1, by omega, by go_num, HF, by first | rfl | trivial⟩, by simp [intOf]; omega⟩
              · have HF : Hid (fits L n = false) := hide (by rw [hz.out, hst.out, decide_eq_false hf]; rfl)
                have hdf : decide (n < (s0.size : Int)) = true := by rw [decide_eq_true_iff]; omega
                go_wp2
                go_ret2
                rw [HRf.out HF.out]
                exact ⟨_, rfl, World.ownsRow_nil _ _ _ _, HR3.out.2⟩
            · have HF : Hid (fits L n = true) := hide (by rw [hz.out, fits_end (by omega)])
              go_wp2
              go_ret2
              rw [HY.out HF.out]
              exact ⟨_, rfl, HR3.out.1, HR3.out.2⟩
  · have hd2 : said l n = false := by simpa using hd
    rw [hd2] at E
    obtain rfl : R = ([], false) := by rw [hR, if_neg (fun e => hd e.1)]
    clear hR hd hd2 h hs hn hr
    go_enter Tryd.func20, Tryd.ntmps20
    go_wp2_with (go_at_call 37; refine E.out.mono ?_; rintro e w1 ⟨rfl, hw'⟩; replace hw' := hw'.symm; subst hw')
    go_ret2
    exact ⟨_, rfl, World.ownsRow_nil _ _ _ _, Below.refl _ _⟩
end Go.Proofs.YtgacajnljplmiaaDoor
