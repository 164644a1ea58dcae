/- Changes that fit one behind the other, from the last on. slices.Backward over changes, by footprints. The program's: changes that fit one behind the other, from the last on. Good histories, of both. -/
import Derived.Test.YtpeconmdmddkfaaDoorHistM
import Derived.Test.YtpeconmdmddkfaaDoorOpSM
import Derived.Test.YtpeconmdmddkfaaDoorOwnM
import Derived.Test.YtpeconmdmddkfaaDoorInv1
import Derived.Test.YtpeconmdmddkfaaDoorRange
import Derived.Test.YtpeconmdmddkfaaDoorOpW4
import Derived.Test.YtpeconmdmddkfaaDoorBoxes
import Derived.Test.YtpeconmdmddkfaaDoorOpW9M
set_option linter.unusedVariables false
namespace Go.Proofs.YtpeconmdmddkfaaDoor
open Go.RowKit
open Doc1

/-- They fit, the first one first. -/
def fitR : List (List Pt) → ByteArray → Bool
  | [], _ => true
  | op :: r, s => (aplO op s).2 && fitR r (aplO op s).1
/-- They fit, the last one first, and are not too many. -/
def fitT (l : List (List Pt)) (s : ByteArray) : Bool := fitR l.reverse s && decide (l.length ≤ 20)
def goodH (t : ByteArray) (u r : List (List Pt)) : Bool := good t.data.toList && fitT u t && fitT r t
theorem take_rev {l : List (List Pt)} {k : Nat} (h : k < l.length) : (l.take (k + 1)).reverse = l[k] :: (l.take k).reverse := by
  rw [List.take_succ_eq_append_getElem h, List.reverse_append]
  rfl
theorem fit_step {l : List (List Pt)} {k : Nat} (h : k < l.length) (s : ByteArray) : fitR (l.take (k + 1)).reverse s = ((aplO l[k] s).2 && fitR (l.take k).reverse (aplO l[k] s).1) := by
  rw [take_rev h]; rfl
theorem good_sz {s : ByteArray} (h : good s.data.toList = true) : s.size ≤ 300 := by
  unfold good at h
  simp at h
  exact h.2
theorem apl_gd {l : List Pt} {s : ByteArray} (h : (aplO l s).2 = true) : good (aplO l s).1.data.toList = true := by
  have u := (undo h).1
  exact (apl_yes (l := invO l) (s := (aplO l s).1) (by rw [u])).2.1
theorem apl_apO {l : List Pt} {s : ByteArray} (h1 : goodO l = true) (h2 : good s.data.toList = true) : (aplO l s).2 = (apO l s).2 ∧ ((apO l s).2 = true → (aplO l s).1 = (apO l s).1 ∧ good (apO l s).1.data.toList = true) := by
  have h3 := @apl_gd l s
  unfold aplO at h3 ⊢
  cases h : (apO l s).2 with
  | false => rw [if_neg (by simp)]; exact ⟨rfl, fun c => by cases c⟩
  | true =>
    rw [h, if_pos ⟨h1, h2, rfl⟩] at h3
    rw [if_pos ⟨h1, h2, rfl⟩]
    exact ⟨rfl, fun _ => ⟨rfl, h3 rfl⟩⟩
theorem apl_no {l : List Pt} {s : ByteArray} (h : goodO l = false) : (aplO l s).2 = false := by
  unfold aplO
  rw [h, if_neg (by simp)]
/-- Of bounded size. -/
def SmC (l : List (List Pt)) : Prop := l.length ≤ 1048576 ∧ ∀ i (hi : i < l.length), l[i].length ≤ 1048576 ∧ ∀ j (hj : j < l[i].length), l[i][j].put.size ≤ 1048576 ∧ l[i][j].drop.size ≤ 1048576
theorem szP_each {l : List Pt} {B : Nat} (h : szPn l ≤ B) (j : Nat) (hj : j < l.length) : l[j].put.size ≤ B ∧ l[j].drop.size ≤ B := by
  unfold szPn at h
  have h1 := szPU_succ l j hj
  have h2 := szPU_mono l (j + 1) l.length hj
  omega
theorem smC_of {l : List (List Pt)} (h : szCn l ≤ 1048576) : SmC l := by
  obtain ⟨h1, h2⟩ := szC_each h
  exact ⟨h1, fun i hi => ⟨by have := h2 i hi; have := szPn_len l[i]; omega, fun j hj => szP_each (h2 i hi) j hj⟩⟩
theorem PR.pin {w : World} {v : Value} {l : List Pt} (h : PR w v l) (h0 : 0 < w.heap.size) (hl : l.length ≤ 1048576) (hs : ∀ j (hj : j < l.length), l[j].put.size ≤ 1048576 ∧ l[j].drop.size ≤ 1048576) : ∃ aw g cap, v = .slice aw l.length cap ∧ Pin w aw g cap l := by
  rcases h with ⟨rfl, a, c, rfl, hc⟩ | ⟨g, cap, rfl, h1, h2, h3, h4, -⟩
  · exact ⟨a, 0, c, rfl, ⟨Nat.zero_le _, hc⟩, hs, by simp, fun j u hu => by simp [encP] at hu, h0, fun c => absurd rfl c⟩
  · exact ⟨_, g, cap, rfl, ⟨h1, h2⟩, hs, hl, h4, h3, fun _ => rfl⟩
theorem DMo.pin {K : Nat} {S : Nat → Prop} {w : World} {g off : Nat} {l : List (List Pt)} {vs : Nat → Value} (h : DMo K S w g off l vs 0) (hm : SmC l) (i : Nat) (hi : i < l.length) : ∃ aw gi cap, vs i = .slice aw l[i].length cap ∧ Pin w aw gi cap l[i] :=
  (h.op i hi (Nat.zero_le _)).pin (Nat.lt_of_le_of_lt (Nat.zero_le _) h.lt) (hm.2 i hi).1 (hm.2 i hi).2

set_option maxRecDepth 100000 in
set_option maxHeartbeats 4000000 in
/-- The model's. -/
theorem fitS {S : Nat → Prop} {w : World} {v : Value} {l : List (List Pt)} {s : ByteArray} (h : DR S w v l) (hm : SmC l) (hg : good s.data.toList = true) :
    Calls Tryd.prog 55 #[v, .string s] w fun e w' => e = .returned (.bool (fitT l s)) ∧ Below w.heap.size w w' := by
  rcases h with ⟨rfl, a, c, rfl⟩ | ⟨g, off, cap, vs, rfl, h0, a1, a2, a3⟩
  · have e0 : fitT [] s = true := rfl
    rw [e0]
    clear hg
    go_enter Tryd.func55, Tryd.ntmps55
    go_wp2
    go_loop [5] (fun i => i = .int .i64 (-1)) (fun _ => 0)
    case atStart => rfl
    case round =>
      subst hrel
      go_wp2
      go_ret
      exact ⟨rfl, Below.refl _ _⟩
  · have HL := hm.1
    have HD := hide a3
    have HM := hide hm
    unfold fitT
    clear a3 hm
    go_enter Tryd.func55, Tryd.ntmps55
    go_wp2
    go_loopw [1, 5] (fun x i wr => ∃ (k : Nat) (t : ByteArray), k ≤ l.length ∧ i = .int .i64 ((k : Int) - 1) ∧ x = .string t ∧ good t.data.toList = true ∧ Hid (fitR l.reverse s = fitR (l.take k).reverse t) ∧ Below w.heap.size w wr) (fun _ i _ => (intOf i + 1).toNat)
    case atStart => exact ⟨l.length, s, Nat.le_refl _, rfl, rfl, hg, hide (by rw [List.take_length]), Below.refl _ _⟩
    case round =>
      obtain ⟨k, t, hk, rfl, rfl, hgt, hfit, hbel⟩ := hrel
      rcases k with _ | k
      · have hfin : Hid ((fitR l.reverse s && decide (l.length ≤ 20)) = decide ((l.length : Int) ≤ 20)) := hide (by
          rw [hfit.out]
          simp only [List.take_zero, List.reverse_nil, fitR, Bool.true_and]
          apply decide_eq_decide.2
          omega)
        clear hgt hfit
        go_wp2
        go_ret
        exact ⟨by rw [hfin.out]; rfl, hbel⟩
      · have hd := HD.out.later hbel
        have c0 := hd.c k (by omega)
        obtain ⟨aw, gi, ci, ev, hp⟩ := hd.pin HM.out k (by omega)
        have hgsz := good_sz hgt
        have hst := fit_step (l := l) (k := k) (by omega) t
        have hidx : ((k + 1 : Nat) : Int) - 1 = (k : Int) := by omega
        rw [hidx]
        rw [ev] at c0
        cases hgo : goodO l[k] with
        | false =>
          have hno : Hid ((fitR l.reverse s && decide (l.length ≤ 20)) = false) := hide (by rw [hfit.out, hst, apl_no hgo]; rfl)
          have GO := hide (goodOpS hp)
          rw [hgo] at GO
          clear hp hd hfit hst hgt hgo
          go_wp2_with fail
          refine GO.out.mono ?_
          rintro e w2 ⟨rfl, hb2⟩
          have HB2 := hide (hbel.trans (hb2.mono hbel.size))
          clear hb2 c0 GO
          go_wp2
          go_ret
          exact ⟨by rw [hno.out]; rfl, HB2.out⟩
        | true =>
          obtain ⟨hap1, hap2⟩ := apl_apO hgo hgt
          have GO := hide (goodOpS hp)
          rw [hgo] at GO
          have HP := hide hp
          have AP : Hid (∀ w2, Below wr.heap.size wr w2 → _) := hide (fun w2 hb => l3Apply_any t (hp.later hb) (goodO_le hgo).1 (goodO_pk hgo) (by omega))
          have CC : Hid (∀ w2, Below wr.heap.size wr w2 → w2.cell? ⟨g, off + k, none⟩ = some (.slice aw l[k].length ci)) := hide (fun w2 hb => (World.cell?_of_block (a := ⟨g, off + k, none⟩) (hb.block _ hd.lt)).trans c0)
          clear hp hd hgo
          cases hok : (apO l[k] t).2 with
          | false =>
            have hno : Hid ((fitR l.reverse s && decide (l.length ≤ 20)) = false) := hide (by rw [hfit.out, hst, hap1, hok]; rfl)
            rw [hok] at AP
            clear hap1 hap2 hfit hst hgt hok
            go_wp2_with fail
            refine GO.out.mono ?_
            rintro e w2 ⟨rfl, hb2⟩
            have c2 := CC.out w2 hb2
            have AP2 := hide (AP.out w2 hb2)
            have HB2 := hide (hbel.trans (hb2.mono hbel.size))
            clear hb2 c0 GO AP CC
            go_wp2_with fail
            refine AP2.out.mono ?_
            rintro e w3 ⟨rfl, hb3⟩
            have HB3 := hide (HB2.out.trans (hb3.mono HB2.out.size))
            clear hb3 c2 AP2
            go_wp2
            go_ret
            exact ⟨by rw [hno.out]; rfl, HB3.out⟩
          | true =>
            obtain ⟨hap3, hap4⟩ := hap2 hok
            have hnx : Hid (fitR l.reverse s = fitR (l.take k).reverse (apO l[k] t).1) := hide (by rw [hfit.out, hst, hap1, hok, hap3]; rfl)
            have hsz2 := good_sz hap4
            have GT := hide (fun w' => goodTextS_any (apO l[k] t).1 w' (by omega))
            rw [hap4] at GT
            rw [hok] at AP
            obtain ⟨T, hT⟩ : ∃ T, (apO l[k] t).1 = T := ⟨_, rfl⟩
            rw [hT] at GT AP hnx hap4
            have HG4 := hide hap4
            clear hap1 hap2 hap3 hap4 hsz2 hfit hst hgt hok hT
            go_wp2_with fail
            refine GO.out.mono ?_
            rintro e w2 ⟨rfl, hb2⟩
            have c2 := CC.out w2 hb2
            have AP2 := hide (AP.out w2 hb2)
            have HB2 := hide (hbel.trans (hb2.mono hbel.size))
            clear hb2 c0 GO AP CC
            go_wp2_with fail
            refine AP2.out.mono ?_
            rintro e w3 ⟨rfl, hb3⟩
            have HB3 := hide (HB2.out.trans (hb3.mono HB2.out.size))
            clear hb3 c2 AP2
            go_wp2_with fail
            refine (GT.out w3).mono ?_
            rintro e w4 ⟨rfl, hw4⟩
            subst hw4
            go_wp2
            refine ⟨⟨k, T, by omega, by go_num, rfl, HG4.out, hnx, HB3.out⟩, by simp [intOf]⟩
end Go.Proofs.YtpeconmdmddkfaaDoor

set_option linter.unusedVariables false
namespace Go.Proofs.YtpeconmdmddkfaaDoor
open Go.RowKit Go.Shelf
open Doc1

attribute [local go_sem] Oper.semAt_some

theorem backward_any (v : Value) (w : World) (a : Option Addr) (len cap : Nat) (hv : v = .slice a len cap) :
    Calls Tryd.prog 122 #[v] w fun e w' => e = .returned (.func (.func 154) #[] #[.pointer (some ⟨w.heap.size, 0, none⟩)]) ∧ w' = w.alloc (.cells #[v] 22) := by
  subst hv
  go_enter Tryd.func122, Tryd.ntmps122
  go_wp2
  go_ret
  exact ⟨rfl, rfl⟩

/-- The numbers below n, from the last on. -/
def dn (n : Nat) : List Nat := (List.range n).reverse
theorem dn_len (n : Nat) : (dn n).length = n := by simp [dn]
theorem dn_at (n i : Nat) (h : i < n) : (dn n)[i]'(by rw [dn_len]; exact h) = n - 1 - i := by simp [dn]
theorem dn_take {n k : Nat} (h : k < n) : (dn n).take k ++ [n - 1 - k] <+: dn n ∧ (dn n).take (k + 1) = (dn n).take k ++ [n - 1 - k] := by
  have e : (dn n).take (k + 1) = (dn n).take k ++ [n - 1 - k] := by
    rw [List.take_succ_eq_append_getElem (by rw [dn_len]; exact h), dn_at n k h]
  exact ⟨by rw [← e]; exact List.take_prefix _ _, e⟩
theorem dn_next {n x : Nat} {pre : List Nat} (h : pre ++ [x] <+: dn n) : pre.length < n ∧ x = n - 1 - pre.length := by
  have h1 := h.length_le
  rw [dn_len] at h1
  simp at h1
  refine ⟨by omega, ?_⟩
  have h2 := h.getElem (i := pre.length) (by simp)
  rw [dn_at n pre.length (by omega)] at h2
  simpa using h2
def chE (vs : Nat → Value) (i : Nat) : Array Value := #[.int .i64 (i : Int), .agg #[vs i]]

set_option maxRecDepth 100000 in
set_option maxHeartbeats 2000000 in
theorem back_iter {w : World} {aw : Option Addr} {g off n cap Bs : Nat} {vs : Nat → Value} (hn : n ≤ 10000000) (had : 0 < n → aw = some ⟨g, off, none⟩) (hgl : g < w.heap.size) (hc : ∀ i, i < n → w.cell? ⟨g, off + i, none⟩ = some (vs i)) (hvs : ∀ i, i < n → ∃ a m c, vs i = .slice a m c) (hBs : w.cell? ⟨Bs, 0, none⟩ = some (.slice aw n cap)) :
    Iter Tryd.prog 154 #[.pointer (some ⟨Bs, 0, none⟩)] (chE vs) (dn n) (fun k => k = Bs ∨ k = g) w := by
  intro m li J Jx O W hJ hJx hsz0 need hY h0
  obtain ⟨eBs, nBs⟩ := need Bs (.inl rfl)
  obtain ⟨eg, ng⟩ := need g (.inr rfl)
  have hBW := (World.cell?_of_block (a := ⟨Bs, 0, none⟩) eBs).trans hBs
  have ltg : g < W.heap.size := Nat.lt_of_lt_of_le hgl hsz0
  have Hc := hide (fun i (hi : i < n) => (World.cell?_of_block (a := ⟨g, off + i, none⟩) eg).trans (hc i hi))
  have Hv := hide hvs
  have Had := hide had
  have ltB : Bs < W.heap.size := by
    have := World.block_lt_of_cell? W _ hBW
    exact this
  have HY := hide hY
  clear eBs eg hBs hc need had hvs hY
  have hdep : Fence.wide.depth = none := rfl
  refine callsIn_of_wp Tryd.func154 rfl trivial ?_ rfl
  simp only [Tryd.ntmps154, List.size_toArray, List.length_cons, List.length_nil, Nat.reduceAdd, Nat.reduceSub, Array.replicate_succ, Array.replicate_zero, List.push_toArray, List.append_toArray, List.nil_append, List.cons_append]
  gi_wp2
  gi_loopw [3] (fun i wr => ∃ k : Nat, k ≤ n ∧ i = .int .i64 ((n : Int) - 1 - (k : Int)) ∧ ∃ O', J ((dn n).take k) O' wr ∧ Moves O W O' wr) (fun i _ => (intOf i + 1).toNat)
  case atStart => exact ⟨0, Nat.zero_le _, by simp, O, h0, Moves.refl _ _⟩
  case round =>
    obtain ⟨k, hk, rfl, O', hJs, hnx⟩ := hrel
    by_cases hlt : k < n
    · have hB2 := (World.cell?_of_block (a := ⟨Bs, 0, none⟩) (hnx.same _ ltB nBs)).trans hBW
      obtain rfl := Had.out (by omega)
      obtain ⟨x, hx⟩ : ∃ x : Nat, x = n - 1 - k := ⟨_, rfl⟩
      have hxi : (n : Int) - 1 - (k : Int) = (x : Int) := by omega
      have hxn : x < n := by omega
      have c0 := (World.cell?_of_block (a := ⟨g, off + x, none⟩) (hnx.same _ ltg ng)).trans (Hc.out x hxn)
      obtain ⟨va, vm, vc, ev⟩ := Hv.out x hxn
      obtain ⟨hpre, htk⟩ := dn_take hlt
      rw [← hx] at hpre htk
      obtain ⟨fn, tmps, assign, body, hy, hR⟩ := HY.out ((dn n).take k) x O' wr hJs hpre
      have hR2 := hide (yield_m hR)
      unfold chE at hy
      rw [ev] at hy c0
      rw [hxi]
      have HTK := hide htk
      have HPR := hide hpre
      have HNX := hide hnx
      have HX := hide hx
      clear hR hnx htk hpre hJs hx hxi ev
      gi_wp2
      refine hR2.out.mono ?_
      rintro e w3 ⟨b, rfl, O3, mv3, h3⟩
      have mvW : Hid (Moves O W O3 w3) := hide (HNX.out.trans mv3)
      cases b with
      | true =>
        have hJ3 := h3.1 rfl
        rw [← HTK.out] at hJ3
        have HJ3 := hide hJ3
        clear c0 hy hR2 h3 mv3 hJ3 hB2
        gi_wp2
        refine ⟨⟨k + 1, by omega, ?_, O3, HJ3.out, mvW.out⟩, ?_⟩
        · have := HX.out
          rw [show (n : Int) - 1 - ((k + 1 : Nat) : Int) = (x : Int) - 1 by omega]
        · simp [intOf]
      | false =>
        have hJ3 := hide (h3.2 rfl)
        clear c0 hy hR2 h3 mv3 hB2
        gi_wp2
        refine bodyPost_ret (results_none rfl _ _ _) rfl ?_
        exact ⟨⟨_, rfl⟩, O3, mvW.out, .inr ⟨_, HPR.out, hJ3.out⟩⟩
    · obtain rfl : k = n := by omega
      rw [List.take_of_length_le (by rw [dn_len]; exact Nat.le_refl _)] at hJs
      have hneg : ¬ (0 ≤ (k : Int) - 1 - (k : Int)) := by omega
      have hdec : decide (0 ≤ (k : Int) - 1 - (k : Int)) = false := decide_eq_false hneg
      gi_wp2
      go_end0
      exact ⟨⟨_, rfl⟩, O', hnx, .inl hJs⟩
end Go.Proofs.YtpeconmdmddkfaaDoor

set_option linter.unusedVariables false
namespace Go.Proofs.YtpeconmdmddkfaaDoor
open Go.RowKit Go.Shelf
open Doc1

attribute [local go_sem] Oper.semAt_some

/-- Of the blocks below N, all but those of the row and of its box are owned, and lie as in W2, all but two boxes. -/
def Fm (N g Bs sb rb : Nat) (W2 : World) (O : Nat → Prop) (W : World) : Prop := O = (fun k => k < N ∧ k ≠ g ∧ k ≠ Bs) ∧ N ≤ W.heap.size ∧ ∀ k, k < N → k ≠ g → k ≠ Bs → k ≠ sb → k ≠ rb → W.heap[k]? = W2.heap[k]?
def FJ (N g Bs sb rb : Nat) (W2 : World) (l : List (List Pt)) (s : ByteArray) (pre : List Nat) (O : Nat → Prop) (W : World) : Prop :=
  Fm N g Bs sb rb W2 O W ∧ (sb < N ∧ sb ≠ g ∧ sb ≠ Bs ∧ rb < N ∧ rb ≠ g ∧ rb ≠ Bs) ∧ Bxd W rb (.bool false) ∧ ∃ t, Bxd W sb (.string t) ∧ good t.data.toList = true ∧ fitR l.reverse s = fitR (l.take (l.length - pre.length)).reverse t
def FX (N g Bs sb rb : Nat) (W2 : World) (l : List (List Pt)) (s : ByteArray) (c : Code) (pre : List Nat) (O : Nat → Prop) (W : World) : Prop :=
  c = .ret ∧ Fm N g Bs sb rb W2 O W ∧ (sb < N ∧ sb ≠ g ∧ sb ≠ Bs ∧ rb < N ∧ rb ≠ g ∧ rb ≠ Bs) ∧ Bxd W rb (.bool false) ∧ fitR l.reverse s = false
theorem Fm.kept {N g Bs sb rb : Nat} {W2 : World} {O : Nat → Prop} {W W' : World} (h : Fm N g Bs sb rb W2 O W) (hs : W.heap.size ≤ W'.heap.size) (hk : ∀ k, O k → W'.heap[k]? = W.heap[k]?) : Fm N g Bs sb rb W2 O W' := by
  obtain ⟨h1, h2, h3⟩ := h
  exact ⟨h1, Nat.le_trans h2 hs, fun k a b c d e => (hk k (by rw [h1]; exact ⟨a, b, c⟩)).trans (h3 k a b c d e)⟩
theorem fJ_held (N g Bs sb rb : Nat) (W2 : World) (l : List (List Pt)) (s : ByteArray) : Held (FJ N g Bs sb rb W2 l s) :=
  ⟨fun ⟨h1, _⟩ k hk => by
      obtain ⟨e, h2, -⟩ := h1
      rw [e] at hk
      exact Nat.lt_of_lt_of_le hk.1 h2,
    fun ⟨h1, h2, h3, t, h4, h5⟩ hs hk => by
      have e := h1.1
      exact ⟨h1.kept hs hk, h2, h3.block (hk _ (by rw [e]; exact ⟨h2.2.2.2.1, h2.2.2.2.2.1, h2.2.2.2.2.2⟩)), t, h4.block (hk _ (by rw [e]; exact ⟨h2.1, h2.2.1, h2.2.2.1⟩)), h5⟩⟩
theorem fX_held (N g Bs sb rb : Nat) (W2 : World) (l : List (List Pt)) (s : ByteArray) (c : Code) : Held (FX N g Bs sb rb W2 l s c) :=
  ⟨fun ⟨_, h1, _⟩ k hk => by
      obtain ⟨e, h2, -⟩ := h1
      rw [e] at hk
      exact Nat.lt_of_lt_of_le hk.1 h2,
    fun ⟨h0, h1, h2, h3, h4⟩ hs hk => by
      have e := h1.1
      exact ⟨h0, h1.kept hs hk, h2, h3.block (hk _ (by rw [e]; exact ⟨h2.2.2.2.1, h2.2.2.2.2.1, h2.2.2.2.2.2⟩)), h4⟩⟩
/-- Within a round: besides, the box of the change. -/
def CAx (J : List Nat → (Nat → Prop) → World → Prop) (vs : Nat → Value) (act : Nat → Nat → Act) (pre : List Nat) (x : Nat) (a' : Act) (B : Nat → Prop) (W : World) : Prop :=
  ∃ O Bx, J pre O W ∧ (∀ k, B k ↔ O k ∨ k = Bx) ∧ ¬ O Bx ∧ Bxd W Bx (vs x) ∧ a' = act x Bx
theorem cAx_held {J : List Nat → (Nat → Prop) → World → Prop} (hJ : Held J) (vs : Nat → Value) (act : Nat → Nat → Act) (pre : List Nat) (x : Nat) (a' : Act) : Held (fun (_ : Unit) => CAx J vs act pre x a') :=
  ⟨fun ⟨O, Bx, h, hB, _, hx, _⟩ k hk => by
      rcases (hB k).1 hk with c | rfl
      · exact hJ.lt h k c
      · exact hx.lt,
    fun ⟨O, Bx, h, hB, hn, hx, ha⟩ hs hk => ⟨O, Bx, hJ.kept h hs (fun k c => hk k ((hB k).2 (.inl c))), hB, hn, hx.block (hk Bx ((hB Bx).2 (.inr rfl))), ha⟩⟩

theorem fm_below {w W2 W : World} {O O' : Nat → Prop} {g : Nat} (hb : Below w.heap.size w W2) (hs : W2.heap.size = w.heap.size + 3) (fm : Fm (w.heap.size + 3) g (w.heap.size + 2) w.heap.size (w.heap.size + 1) W2 O' W) (mv : Moves O W2 O' W) (hO : ¬ O g) : Below w.heap.size w W :=
  ⟨mv.os.trans hb.os, mv.tape.trans hb.tape, mv.output.trans hb.output, Nat.le_trans hb.size mv.size, fun k hk => by
    by_cases e : k = g
    · subst e; exact (mv.same k (by omega) hO).trans (hb.block k hk)
    · exact (fm.2.2 k (by omega) e (by omega) (by omega) (by omega)).trans (hb.block k hk)⟩

set_option maxRecDepth 100000 in
set_option maxHeartbeats 4000000 in
theorem fitI_row {S : Nat → Prop} {w : World} {g off cap : Nat} {vs : Nat → Value} {l : List (List Pt)} {s : ByteArray} (h0 : 0 < l.length) (h20 : l.length ≤ 20) (a1 : l.length ≤ cap) (a2 : cap ≤ maxLen) (h : DMo 0 S w g off l vs 0) (hm : SmC l) (hg : good s.data.toList = true) (hT : Tab w) (hgT : g ≠ 0) :
    Calls Tryd.prog 57 #[.slice (some ⟨g, off, none⟩) l.length cap, .string s] w fun e w' => e = .returned (.bool (fitR l.reverse s)) ∧ Below w.heap.size w w' := by
  have SO := hide (fun w' => backward_any (.slice (some ⟨g, off, none⟩) l.length cap) w' _ _ _ rfl)
  have HD := hide h
  have HM := hide hm
  have hHT := hide hT
  have ltT := hT.lt
  have ltg := h.lt
  have h21 : ¬ (20 < (l.length : Int)) := by omega
  have hdec : decide (20 < (l.length : Int)) = false := decide_eq_false h21
  clear h hm hT
  have hdep : Fence.wide.depth = none := rfl
  refine (callsIn_wide (n := 6)).1 ?_
  refine callsIn_of_wp_marks Tryd.func57 rfl trivial ?_ rfl
  simp only [Tryd.ntmps57, List.size_toArray, List.length_cons, List.length_nil, Nat.reduceAdd, Nat.reduceSub, Array.replicate_succ, Array.replicate_zero, List.push_toArray, List.append_toArray, List.nil_append, List.cons_append]
  gi_wp2_with (first
    | (refine ⟨trivial, ?_⟩; gi_at_call 122; refine (callsIn_wide.2 (SO.out _)).mono ?_; rintro e w' ⟨rfl, hw⟩; replace hw := hw.symm; subst hw))
  refine three_boxes (Φ := fun W2 => Code.wpIn _ _ _ _ _ _ W2) ?_
  intro W2 hB2 hs2 bs br bq
  have dm2 := HD.out.later hB2
  have hJ := fJ_held (w.heap.size + 3) g (w.heap.size + 2) w.heap.size (w.heap.size + 1) W2 l s
  have hO : Hid (¬ (fun k => k < w.heap.size + 3 ∧ k ≠ g ∧ k ≠ w.heap.size + 2) g) := hide (fun c => c.2.1 rfl)
  refine wpIn_range rfl (enters_of Tryd.func154 (by kernel_rfl) rfl)
    (back_iter (w := W2) (vs := vs) (g := g) (off := off) (n := l.length) (by omega) (fun _ => rfl) (by omega) dm2.c (fun i hi => by obtain ⟨a, c, e⟩ := (dm2.op i hi (Nat.zero_le _)).shp; exact ⟨a, _, c, e⟩) bq.cell) (fun _ => rfl)
    (J := FJ (w.heap.size + 3) g (w.heap.size + 2) w.heap.size (w.heap.size + 1) W2 l s) (Jx := FX (w.heap.size + 3) g (w.heap.size + 2) w.heap.size (w.heap.size + 1) W2 l s) (O := fun k => k < w.heap.size + 3 ∧ k ≠ g ∧ k ≠ w.heap.size + 2) hJ (fX_held _ _ _ _ _ _ _ _) (Nat.le_refl _)
    (by
      rintro k (rfl | rfl)
      · exact ⟨by omega, rfl, fun c => c.2.2 rfl⟩
      · exact ⟨by omega, rfl, fun c => c.2.1 rfl⟩)
    ⟨⟨rfl, by omega, fun k _ _ _ _ _ => rfl⟩, ⟨by omega, by omega, by omega, by omega, by omega, by omega⟩, br, s, bs, hg, by simp⟩
    (cAx_held hJ vs (fun x Bx => { tmps := #[.slice (some ⟨g, off, none⟩) l.length cap, .string s, undef, .pointer (some ⟨w.heap.size, 0, none⟩), .pointer (some ⟨w.heap.size + 1, 0, none⟩), undef, .pointer (some ⟨Bx, 0, none⟩), undef, .slice (some ⟨g, off, none⟩) l.length cap, .int .i64 (l.length : Int), .bool false, .slice (some ⟨g, off, none⟩) l.length cap, .func (.func 154) #[] #[.pointer (some ⟨w.heap.size + 1 + 1, 0, none⟩)], .int .i64 (x : Int), .agg #[vs x], undef, undef, undef, undef, undef, undef, undef, undef, undef], defers := [] }))
    ?assigned ?round ?done ?stop
  case assigned =>
    rintro l1 pre x O W K hj hx hK
    have hxl : x < l.length := by have := dn_next hx; omega
    obtain ⟨va, vm, vc, ev⟩ : ∃ va vm vc, vs x = .slice va vm vc := by obtain ⟨a, c, e⟩ := (dm2.op x hxl (Nat.zero_le _)).shp; exact ⟨a, _, c, e⟩
    have hbx := bxd_new W (vs x)
    simp only [chE]
    rw [ev] at hbx ⊢
    gi_wp2
    exact hK _ _ _ ((Moves.refl _ _).alloc _) ⟨O, W.heap.size, hJ.up hj ((Below.refl _ _).alloc (Nat.le_refl _) _), fun _ => Iff.rfl, fun c => absurd (hJ.lt hj _ c) (by omega), by rw [ev]; exact hbx _, by simp only [ev]⟩
  case round =>
    rintro l1 pre x a' O W ⟨O1, Bx, ⟨hfm, hne, hrb, t, hsb, hgt, hfit⟩, hB, hnB, hbx, rfl⟩ hl1 hnl hx
    obtain ⟨hx1, hx2⟩ := dn_next hx
    have hxl : x < l.length := by omega
    have hOe := hfm.1
    have hN := hfm.2.1
    have tabW : Tab W := (hHT.out.below hB2).block (hfm.2.2 _ (by omega) (Ne.symm hgT) (by omega) (by omega) (by omega))
    have prW : PR W (vs x) l[x] := (HD.out.op x hxl (Nat.zero_le _)).keep (by omega) (fun y hy hl => (hfm.2.2 y (by omega) (HD.out.opS x hxl y hy).2 (by omega) (by omega) (by omega)).trans (hB2.block y hl))
    obtain ⟨aw, gi, ci, ev, hp⟩ := prW.pin (by omega) (HM.out.2 x hxl).1 (HM.out.2 x hxl).2
    have hgsz := good_sz hgt
    have hst := fit_step hxl t
    rw [show l.length - pre.length = x + 1 by omega, hst] at hfit
    have hlen : l.length - (pre ++ [x]).length = x := by simp; omega
    have AP : Hid (∀ w2, Below W.heap.size W w2 → _) := hide (fun w2 hb => applyI t (hp.later hb) (tabW.below hb) (by omega))
    rw [ev] at hbx
    have e1 := hbx.cell
    have e2 := hsb.cell
    have f2 := hsb.fz
    have HB := hide hB
    have HFM := hide hfm
    have HSB := hide hsb
    have HRB := hide hrb
    have HX := hide hx2
    have HNE := hide hne
    have HOE := hide hOe
    have HLE := hide hlen
    clear hx1 hx2 hx tabW prW hp hst hfm hsb hrb hB hne hOe hgt hbx hnl hnB hlen hN hl1
    have hmix : Tryd.prog.follows .mixedOrders = true := by kernel_rfl
    have MV : Hid (∀ W', Moves O1 W O1 W' → Moves O W O1 W') := hide (fun W' m => m.wider (fun k _ c => (HB.out k).2 (.inl c)) (fun k _ c => (HB.out k).2 (.inl c)))
    simp only [ev]
    cases hok : (aplO l[x] t).2 with
    | true =>
      have HG := hide (apl_gd hok)
      rw [hok, Bool.true_and] at hfit
      have HF := hide hfit
      rw [hok] at AP
      obtain ⟨T, hT⟩ : ∃ T, (aplO l[x] t).1 = T := ⟨_, rfl⟩
      rw [hT] at AP HG HF
      clear hfit hok hT
      gi_wp2_with (refine ⟨trivial, ?_⟩; gi_at_call 26; refine (callsIn_wide.2 (AP.out _ (Below.refl _ _))).mono ?_; rintro e w2 ⟨rfl, hb2⟩; have q2 := (HSB.out.up hb2).cell; have q3 := (HSB.out.up hb2).fz)
      have hOe := HOE.out
      have hne := HNE.out
      refine ⟨O1, MV.out _ ((moves_up hb2).setCell (fun _ => by rw [hOe]; exact ⟨hne.1, hne.2.1, hne.2.2.1⟩) _), ⟨hOe, ?_, fun k h1 h2 h3 h4 h5 => ?_⟩, hne, ?_, T, ?_, HG.out, ?_⟩
      · have := hb2.size; have := HFM.out.2.1; simp [World.setCell]; omega
      · exact (Below.heap_setCell _ _ _ _ (by show k ≠ w.heap.size; exact h4)).trans ((hb2.block k (by have := HFM.out.2.1; omega)).trans (HFM.out.2.2 k h1 h2 h3 h4 h5))
      · exact (HRB.out.up hb2).other (by omega) _
      · exact (HSB.out.up hb2).set _
      · rw [HLE.out]; exact HF.out
    | false =>
      rw [hok, Bool.false_and] at hfit
      have HF := hide hfit
      rw [hok] at AP
      obtain ⟨T, hT⟩ : ∃ T, (aplO l[x] t).1 = T := ⟨_, rfl⟩
      rw [hT] at AP
      clear hfit hok hT
      have KR : Hid (∀ w2, Below W.heap.size W w2 → ∀ v, (w2.setCell ⟨w.heap.size, 0, none⟩ v).cell? ⟨w.heap.size + 1, 0, none⟩ = some (.bool false) ∧ (w2.setCell ⟨w.heap.size, 0, none⟩ v).frozen? ⟨w.heap.size + 1, 0, none⟩ = false) := hide (fun w2 hb v => ⟨((HRB.out.up hb).other (by omega) _).cell, ((HRB.out.up hb).other (by omega) _).fz⟩)
      gi_wp2_with (refine ⟨trivial, ?_⟩; gi_at_call 26; refine (callsIn_wide.2 (AP.out _ (Below.refl _ _))).mono ?_; rintro e w2 ⟨rfl, hb2⟩; have q2 := (HSB.out.up hb2).cell; have q3 := (HSB.out.up hb2).fz; obtain ⟨q4, q5⟩ := KR.out w2 hb2 (.string T))
      have hOe := HOE.out
      have hne := HNE.out
      refine ⟨O1, MV.out _ (((moves_up hb2).setCell (fun _ => by rw [hOe]; exact ⟨hne.1, hne.2.1, hne.2.2.1⟩) _).setCell (fun _ => by rw [hOe]; exact ⟨hne.2.2.2.1, hne.2.2.2.2.1, hne.2.2.2.2.2⟩) _), rfl, ⟨hOe, ?_, fun k h1 h2 h3 h4 h5 => ?_⟩, hne, ?_, HF.out⟩
      · have := hb2.size; have := HFM.out.2.1; simp [World.setCell]; omega
      · exact (Below.heap_setCell _ _ _ _ (by show k ≠ w.heap.size + 1; exact h5)).trans ((Below.heap_setCell _ _ _ _ (by show k ≠ w.heap.size; exact h4)).trans ((hb2.block k (by have := HFM.out.2.1; omega)).trans (HFM.out.2.2 k h1 h2 h3 h4 h5)))
      · exact ((HRB.out.up hb2).other (by omega) _).set _
  case done =>
    rintro D O' W hD hnD ⟨hfm, hne, hrb, t, hsb, hgt, hfit⟩ mv hK
    have hB3 := fm_below hB2 hs2 hfm mv hO.out
    have hfin : Hid (fitR l.reverse s = true) := hide (by rw [hfit, dn_len, Nat.sub_self]; rfl)
    have nD : D ≠ w.heap.size + 1 := fun e => hnD (by rw [hfm.1, e]; exact ⟨hne.2.2.2.1, hne.2.2.2.2.1, hne.2.2.2.2.2⟩)
    have e1 := hrb.cell
    have f1 := hrb.fz
    have c3 := (hrb.set (.bool true)).cell
    have hK2 : (W.setCell ⟨w.heap.size + 1, 0, none⟩ (.bool true)).heap[D]? = some (.deferred (some [])) := (Below.heap_setCell _ _ _ _ nD).trans hK
    have k1 : ((W.setCell ⟨w.heap.size + 1, 0, none⟩ (.bool true)).putObj D (.deferred none)).cell? ⟨w.heap.size + 1, 0, none⟩ = some (.bool true) := (World.cell?_of_block (World.putObj_heap_other (Ne.symm nD))).trans c3
    have HE := hide ((hB3.setCell (p := ⟨w.heap.size + 1, 0, none⟩) (by show _ ≤ _ + 1; omega) (.bool true)).trans (⟨rfl, rfl, rfl, by simp, fun k hk => World.putObj_heap_other (by omega)⟩ : Below w.heap.size (W.setCell ⟨w.heap.size + 1, 0, none⟩ (.bool true)) ((W.setCell ⟨w.heap.size + 1, 0, none⟩ (.bool true)).putObj D (.deferred none))))
    clear hB3 hfm hsb hrb mv hnD hfit hgt
    gi_wp2
    refine ⟨by simp, .inl ⟨_, _, rfl, run_takeDeferred hK2, ?_⟩⟩
    refine ⟨.bool true, ?_, by rw [hfin.out], HE.out⟩
    simp [results, Tryd.f57, go_sem, k1]
  case stop =>
    rintro D c pre O' W hD hnD hpre ⟨rfl, hfm, hne, hrb, hfit⟩ mv hK
    have hB3 := fm_below hB2 hs2 hfm mv hO.out
    have hfin := hide hfit
    have nD : D ≠ w.heap.size + 1 := fun e => hnD (by rw [hfm.1, e]; exact ⟨hne.2.2.2.1, hne.2.2.2.2.1, hne.2.2.2.2.2⟩)
    have k1 : (W.putObj D (.deferred none)).cell? ⟨w.heap.size + 1, 0, none⟩ = some (.bool false) := (World.cell?_of_block (World.putObj_heap_other (Ne.symm nD))).trans hrb.cell
    have HE := hide (hB3.trans (⟨rfl, rfl, rfl, by simp, fun k hk => World.putObj_heap_other (by omega)⟩ : Below w.heap.size W (W.putObj D (.deferred none))))
    clear hB3 hfm hrb mv hnD hfit
    gi_wp2
    refine ⟨by simp, .inl ⟨_, _, rfl, run_takeDeferred hK, ?_⟩⟩
    refine ⟨.bool false, ?_, by rw [hfin.out], HE.out⟩
    simp [results, Tryd.f57, go_sem, k1]
set_option maxRecDepth 100000 in
set_option maxHeartbeats 4000000 in
theorem fitI_nil {w : World} {aq : Option Addr} {cap : Nat} {s : ByteArray} (hg : good s.data.toList = true) :
    Calls Tryd.prog 57 #[.slice aq 0 cap, .string s] w fun e w' => e = .returned (.bool true) ∧ Below w.heap.size w w' := by
  have SO := hide (fun w' => backward_any (.slice aq 0 cap) w' _ _ _ rfl)
  have hdep : Fence.wide.depth = none := rfl
  refine (callsIn_wide (n := 6)).1 ?_
  refine callsIn_of_wp_marks Tryd.func57 rfl trivial ?_ rfl
  simp only [Tryd.ntmps57, List.size_toArray, List.length_cons, List.length_nil, Nat.reduceAdd, Nat.reduceSub, Array.replicate_succ, Array.replicate_zero, List.push_toArray, List.append_toArray, List.nil_append, List.cons_append]
  gi_wp2_with (first
    | (refine ⟨trivial, ?_⟩; gi_at_call 122; refine (callsIn_wide.2 (SO.out _)).mono ?_; rintro e w' ⟨rfl, hw⟩; replace hw := hw.symm; subst hw))
  refine three_boxes (Φ := fun W2 => Code.wpIn _ _ _ _ _ _ W2) ?_
  intro W2 hB2 hs2 bs br bq
  have hJ := fJ_held (w.heap.size + 3) (w.heap.size + 2) (w.heap.size + 2) w.heap.size (w.heap.size + 1) W2 [] s
  have hO : Hid (¬ (fun k => k < w.heap.size + 3 ∧ k ≠ w.heap.size + 2 ∧ k ≠ w.heap.size + 2) (w.heap.size + 2)) := hide (fun c => c.2.1 rfl)
  refine wpIn_range rfl (enters_of Tryd.func154 (by kernel_rfl) rfl)
    (back_iter (w := W2) (vs := fun _ => undef) (g := w.heap.size + 2) (off := 0) (n := 0) (by omega) (fun c => by omega) (by omega) (fun i hi => by omega) (fun i hi => by omega) bq.cell) (fun _ => rfl)
    (J := FJ (w.heap.size + 3) (w.heap.size + 2) (w.heap.size + 2) w.heap.size (w.heap.size + 1) W2 [] s) (Jx := fun _ _ _ _ => False) (O := fun k => k < w.heap.size + 3 ∧ k ≠ w.heap.size + 2 ∧ k ≠ w.heap.size + 2) hJ (fun _ => no_held) (Nat.le_refl _)
    (by
      rintro k (rfl | rfl)
      · exact ⟨by omega, rfl, fun c => c.2.2 rfl⟩
      · exact ⟨by omega, rfl, fun c => c.2.1 rfl⟩)
    ⟨⟨rfl, by omega, fun k _ _ _ _ _ => rfl⟩, ⟨by omega, by omega, by omega, by omega, by omega, by omega⟩, br, s, bs, hg, by simp⟩
    (Ax := fun _ _ _ _ _ => False) (fun _ _ _ => no_held)
    ?assigned ?round ?done ?stop
  case assigned => exact fun _ pre x _ _ _ _ hx _ => absurd (dn_next hx).1 (by omega)
  case round => exact fun _ _ _ _ _ _ h => h.elim
  case done =>
    rintro D O' W hD hnD ⟨hfm, hne, hrb, t, hsb, hgt, hfit⟩ mv hK
    have hB3 := fm_below hB2 hs2 hfm mv hO.out
    have nD : D ≠ w.heap.size + 1 := fun e => hnD (by rw [hfm.1, e]; exact ⟨hne.2.2.2.1, hne.2.2.2.2.1, hne.2.2.2.2.2⟩)
    have e1 := hrb.cell
    have f1 := hrb.fz
    have c3 := (hrb.set (.bool true)).cell
    have hK2 : (W.setCell ⟨w.heap.size + 1, 0, none⟩ (.bool true)).heap[D]? = some (.deferred (some [])) := (Below.heap_setCell _ _ _ _ nD).trans hK
    have k1 : ((W.setCell ⟨w.heap.size + 1, 0, none⟩ (.bool true)).putObj D (.deferred none)).cell? ⟨w.heap.size + 1, 0, none⟩ = some (.bool true) := (World.cell?_of_block (World.putObj_heap_other (Ne.symm nD))).trans c3
    have HE := hide ((hB3.setCell (p := ⟨w.heap.size + 1, 0, none⟩) (by show _ ≤ _ + 1; omega) (.bool true)).trans (⟨rfl, rfl, rfl, by simp, fun k hk => World.putObj_heap_other (by omega)⟩ : Below w.heap.size (W.setCell ⟨w.heap.size + 1, 0, none⟩ (.bool true)) ((W.setCell ⟨w.heap.size + 1, 0, none⟩ (.bool true)).putObj D (.deferred none))))
    clear hB3 hfm hsb hrb mv hnD hfit hgt
    gi_wp2
    refine ⟨by simp, .inl ⟨_, _, rfl, run_takeDeferred hK2, ?_⟩⟩
    refine ⟨.bool true, ?_, rfl, HE.out⟩
    simp [results, Tryd.f57, go_sem, k1]
  case stop => exact fun _ _ _ _ _ _ _ _ h => h.elim

set_option maxRecDepth 100000 in
set_option maxHeartbeats 1000000 in
theorem fitI_long {w : World} {v : Value} {a : Option Addr} {n cap : Nat} {s : ByteArray} (ev : v = .slice a n cap) (h20 : ¬ n ≤ 20) :
    Calls Tryd.prog 57 #[v, .string s] w fun e w' => e = .returned (.bool false) ∧ Below w.heap.size w w' := by
  subst ev
  have h61 : (20 : Int) < (n : Int) := by omega
  obtain ⟨-, k2, k3, k4⟩ := cb_two w #[.string s] #[.bool false] 9 4
  have c1 := k2.cell 0 rfl
  have f1 := k2.fz 0
  have HB := hide k3
  go_enter Tryd.func57, Tryd.ntmps57
  go_wp2
  refine bodyPost_ret (v := .bool false) (by simp [results, Tryd.results57, go_sem]) rfl ⟨rfl, ?_⟩
  first | exact HB.out | exact HB.out.setCell (by show w.heap.size ≤ w.heap.size + 1; omega) _

/-- The program's. -/
theorem fitI {S : Nat → Prop} {w : World} {v : Value} {l : List (List Pt)} {s : ByteArray} (h : DR S w v l) (hm : SmC l) (hg : good s.data.toList = true) (hT : Tab w) (hS : ∀ y, S y → y ≠ 0) :
    Calls Tryd.prog 57 #[v, .string s] w fun e w' => e = .returned (.bool (fitT l s)) ∧ Below w.heap.size w w' := by
  by_cases h20 : l.length ≤ 20
  · have e20 : fitT l s = fitR l.reverse s := by unfold fitT; rw [decide_eq_true h20, Bool.and_true]
    rw [e20]
    rcases h with ⟨rfl, a, c, rfl⟩ | ⟨g, off, cap, vs, rfl, h0, a1, a2, a3⟩
    · exact fitI_nil hg
    · exact fitI_row h0 h20 a1 a2 a3 hm hg hT (hS g a3.inS)
  · have e20 : fitT l s = false := by unfold fitT; rw [decide_eq_false h20, Bool.and_false]
    rw [e20]
    obtain ⟨a, c, ev⟩ := h.shp
    exact fitI_long ev h20
end Go.Proofs.YtpeconmdmddkfaaDoor

set_option linter.unusedVariables false
namespace Go.Proofs.YtpeconmdmddkfaaDoor
open Go.RowKit
open Doc1

set_option maxRecDepth 100000 in
set_option maxHeartbeats 4000000 in
theorem goodHS {lo hi : Nat} {w : World} {vu vr : Value} {t : ByteArray} {u r : List (List Pt)} (h : HX lo hi w vu vr u r) (ht : t.size ≤ 1048576) (mu : SmC u) (mr : SmC r) :
    Calls Tryd.prog 15 #[.agg #[.string t, vu, vr]] w fun e w' => e = .returned (.bool (goodH t u r)) ∧ Below w.heap.size w w' := by
  obtain ⟨S, T, h1, h2, -, h4⟩ := h
  have G : Hid (∀ w', Below w.heap.size w w' → _) := hide (fun w' (hb : Below w.heap.size w w') => goodTextS_any t w' ht)
  have FU : Hid (good t.data.toList = true → ∀ w', Below w.heap.size w w' → Calls Tryd.prog 55 #[vu, .string t] w' fun e w'' => e = .returned (.bool (fitT u t)) ∧ Below w'.heap.size w' w'') := hide (fun hg w' hb => fitS (s := t) (h1.later hb) mu hg)
  have FR : Hid (good t.data.toList = true → ∀ w', Below w.heap.size w w' → Calls Tryd.prog 55 #[vr, .string t] w' fun e w'' => e = .returned (.bool (fitT r t)) ∧ Below w'.heap.size w' w'') := hide (fun hg w' hb => fitS (s := t) (h2.later hb) mr hg)
  obtain ⟨a1, c1, e1⟩ := h1.shp
  obtain ⟨a2, c2, e2⟩ := h2.shp
  subst e1 e2
  obtain ⟨w1, hw1⟩ : ∃ w1, w1 = w.alloc (.cells #[.string t, .slice a1 u.length c1, .slice a2 r.length c2] 24) := ⟨_, rfl⟩
  have k1 : CB w1 w.heap.size #[.string t, .slice a1 u.length c1, .slice a2 r.length c2] := by rw [hw1]; exact CB.new _ _ _
  have k3 : Below w.heap.size w w1 := by rw [hw1]; exact (Below.refl _ _).alloc (Nat.le_refl _) _
  have HK : Hid (∀ w', Below w1.heap.size w1 w' → w'.cell? ⟨w.heap.size, 0, none⟩ = some (.string t) ∧ w'.cell? ⟨w.heap.size, 1, none⟩ = some (.slice a1 u.length c1) ∧ w'.cell? ⟨w.heap.size, 2, none⟩ = some (.slice a2 r.length c2)) := hide (fun w' hb => ⟨(k1.later hb).cell 0 rfl, (k1.later hb).cell 1 rfl, (k1.later hb).cell 2 rfl⟩)
  have HB := hide k3
  have GG := hide (G.out w1 k3)
  unfold goodH
  clear h1 h2 h4 k1 k3 mu mr G ht
  cases hg : good t.data.toList with
  | false =>
    rw [hg] at GG
    clear FU FR hg
    go_enter Tryd.func15, Tryd.ntmps15
    go_wp2_with fail
    rw [← hw1]
    clear hw1
    refine GG.out.mono ?_
    rintro e w2 ⟨rfl, hw2⟩
    subst hw2
    go_wp2
    go_ret
    exact ⟨rfl, HB.out⟩
  | true =>
    rw [hg] at GG
    have FU1 := hide (FU.out hg w1 HB.out)
    have FR1 := hide (FR.out hg)
    obtain ⟨q0, q1, q2⟩ := HK.out w1 (Below.refl _ _)
    clear FU FR hg
    cases hu : fitT u t with
    | false =>
      rw [hu] at FU1
      clear hu FR1
      go_enter Tryd.func15, Tryd.ntmps15
      go_wp2_with fail
      rw [← hw1]
      clear hw1
      refine GG.out.mono ?_
      rintro e w2 ⟨rfl, hw2⟩
      subst hw2
      go_wp2_with fail
      refine FU1.out.mono ?_
      rintro e w3 ⟨rfl, hb3⟩
      have HB3 := hide (HB.out.trans (hb3.mono HB.out.size))
      clear hb3 q0 q1 q2
      go_wp2
      go_ret
      exact ⟨rfl, HB3.out⟩
    | true =>
      rw [hu] at FU1
      obtain ⟨B, hBq⟩ : ∃ B, fitT r t = B := ⟨_, rfl⟩
      rw [hBq] at FR1 ⊢
      clear hu hBq
      go_enter Tryd.func15, Tryd.ntmps15
      go_wp2_with fail
      rw [← hw1]
      clear hw1
      refine GG.out.mono ?_
      rintro e w2 ⟨rfl, hw2⟩
      subst hw2
      go_wp2_with fail
      refine FU1.out.mono ?_
      rintro e w3 ⟨rfl, hb3⟩
      have HB3 := hide (HB.out.trans (hb3.mono HB.out.size))
      have FR2 := hide (FR1.out w3 HB3.out)
      obtain ⟨p0, p1, p2⟩ := HK.out w3 hb3
      clear hb3 q0 q1 q2
      go_wp2_with fail
      refine FR2.out.mono ?_
      rintro e w4 ⟨rfl, hb4⟩
      have HB4 := hide (HB3.out.trans (hb4.mono HB3.out.size))
      clear hb4 p0 p1 p2
      go_wp2
      go_ret
      exact ⟨by simp, HB4.out⟩

set_option maxRecDepth 100000 in
set_option maxHeartbeats 4000000 in
theorem goodHI {lo hi : Nat} {w : World} {vu vr : Value} {t : ByteArray} {u r : List (List Pt)} (h : HX lo hi w vu vr u r) (ht : t.size ≤ 1048576) (mu : SmC u) (mr : SmC r) (hT : Tab w) (hlo : 0 < lo) :
    Calls Tryd.prog 17 #[.agg #[.string t, vu, vr]] w fun e w' => e = .returned (.bool (goodH t u r)) ∧ Below w.heap.size w w' := by
  obtain ⟨S, T, h1, h2, -, h4⟩ := h
  have G : Hid (∀ w', Below w.heap.size w w' → _) := hide (fun w' (hb : Below w.heap.size w w') => goodTextI_any t w' ht (hT.below hb))
  have FU : Hid (good t.data.toList = true → ∀ w', Below w.heap.size w w' → Calls Tryd.prog 57 #[vu, .string t] w' fun e w'' => e = .returned (.bool (fitT u t)) ∧ Below w'.heap.size w' w'') := hide (fun hg w' hb => fitI (s := t) (h1.later hb) mu hg (hT.below hb) (fun y hy c => by have := h4 y (.inl hy); omega))
  have FR : Hid (good t.data.toList = true → ∀ w', Below w.heap.size w w' → Calls Tryd.prog 57 #[vr, .string t] w' fun e w'' => e = .returned (.bool (fitT r t)) ∧ Below w'.heap.size w' w'') := hide (fun hg w' hb => fitI (s := t) (h2.later hb) mr hg (hT.below hb) (fun y hy c => by have := h4 y (.inr hy); omega))
  obtain ⟨a1, c1, e1⟩ := h1.shp
  obtain ⟨a2, c2, e2⟩ := h2.shp
  subst e1 e2
  obtain ⟨w1, hw1⟩ : ∃ w1, w1 = w.alloc (.cells #[.string t, .slice a1 u.length c1, .slice a2 r.length c2] 24) := ⟨_, rfl⟩
  have k1 : CB w1 w.heap.size #[.string t, .slice a1 u.length c1, .slice a2 r.length c2] := by rw [hw1]; exact CB.new _ _ _
  have k3 : Below w.heap.size w w1 := by rw [hw1]; exact (Below.refl _ _).alloc (Nat.le_refl _) _
  have HK : Hid (∀ w', Below w1.heap.size w1 w' → w'.cell? ⟨w.heap.size, 0, none⟩ = some (.string t) ∧ w'.cell? ⟨w.heap.size, 1, none⟩ = some (.slice a1 u.length c1) ∧ w'.cell? ⟨w.heap.size, 2, none⟩ = some (.slice a2 r.length c2)) := hide (fun w' hb => ⟨(k1.later hb).cell 0 rfl, (k1.later hb).cell 1 rfl, (k1.later hb).cell 2 rfl⟩)
  have HB := hide k3
  have GG := hide (G.out w1 k3)
  unfold goodH
  clear h1 h2 h4 k1 k3 mu mr G ht hT hlo
  cases hg : good t.data.toList with
  | false =>
    rw [hg] at GG
    clear FU FR hg
    go_enter Tryd.func17, Tryd.ntmps17
    go_wp2_with fail
    rw [← hw1]
    clear hw1
    refine GG.out.mono ?_
    rintro e w2 ⟨rfl, hw2⟩
    subst hw2
    go_wp2
    go_ret
    exact ⟨rfl, HB.out⟩
  | true =>
    rw [hg] at GG
    have FU1 := hide (FU.out hg w1 HB.out)
    have FR1 := hide (FR.out hg)
    obtain ⟨q0, q1, q2⟩ := HK.out w1 (Below.refl _ _)
    clear FU FR hg
    cases hu : fitT u t with
    | false =>
      rw [hu] at FU1
      clear hu FR1
      go_enter Tryd.func17, Tryd.ntmps17
      go_wp2_with fail
      rw [← hw1]
      clear hw1
      refine GG.out.mono ?_
      rintro e w2 ⟨rfl, hw2⟩
      subst hw2
      go_wp2_with fail
      refine FU1.out.mono ?_
      rintro e w3 ⟨rfl, hb3⟩
      have HB3 := hide (HB.out.trans (hb3.mono HB.out.size))
      clear hb3 q0 q1 q2
      go_wp2
      go_ret
      exact ⟨rfl, HB3.out⟩
    | true =>
      rw [hu] at FU1
      obtain ⟨B, hBq⟩ : ∃ B, fitT r t = B := ⟨_, rfl⟩
      rw [hBq] at FR1 ⊢
      clear hu hBq
      go_enter Tryd.func17, Tryd.ntmps17
      go_wp2_with fail
      rw [← hw1]
      clear hw1
      refine GG.out.mono ?_
      rintro e w2 ⟨rfl, hw2⟩
      subst hw2
      go_wp2_with fail
      refine FU1.out.mono ?_
      rintro e w3 ⟨rfl, hb3⟩
      have HB3 := hide (HB.out.trans (hb3.mono HB.out.size))
      have FR2 := hide (FR1.out w3 HB3.out)
      obtain ⟨p0, p1, p2⟩ := HK.out w3 hb3
      clear hb3 q0 q1 q2
      go_wp2_with fail
      refine FR2.out.mono ?_
      rintro e w4 ⟨rfl, hb4⟩
      have HB4 := hide (HB3.out.trans (hb4.mono HB3.out.size))
      clear hb4 p0 p1 p2
      go_wp2
      go_ret
      exact ⟨by simp, HB4.out⟩

end Go.Proofs.YtpeconmdmddkfaaDoor
