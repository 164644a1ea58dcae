/- Changes that fit one behind the other, from the last on. -/
import Derived.Test.YtpeconmdmddkfaaDoorHistX
import Derived.Test.YtpeconmdmddkfaaDoorOpSM
import Derived.Test.YtpeconmdmddkfaaDoorOwnM
import Derived.Test.YtpeconmdmddkfaaDoorInv1
set_option linter.unusedVariables false
namespace Go.Proofs.YtpeconmdmddkfaaDoor
open Go.RowKit
open Doc1

/-- They fit, the first one first. -/
def fitR : List (List Pt) → ByteArray → Bool
  | [], _ => true
  | op :: r, s => (aplO op s).2 && fitR r (aplO op s).1
/-- They fit, the last one first, and are not too many. -/
def fitT (l : List (List Pt)) (s : ByteArray) : Bool := fitR l.reverse s && decide (l.length ≤ 20)
def goodH (t : ByteArray) (u r : List (List Pt)) : Bool := good t.data.toList && fitT u t && fitT r t
theorem take_rev {l : List (List Pt)} {k : Nat} (h : k < l.length) : (l.take (k + 1)).reverse = l[k] :: (l.take k).reverse := by
  rw [List.take_succ_eq_append_getElem h, List.reverse_append]
  rfl
theorem fit_step {l : List (List Pt)} {k : Nat} (h : k < l.length) (s : ByteArray) : fitR (l.take (k + 1)).reverse s = ((aplO l[k] s).2 && fitR (l.take k).reverse (aplO l[k] s).1) := by
  rw [take_rev h]; rfl
theorem good_sz {s : ByteArray} (h : good s.data.toList = true) : s.size ≤ 300 := by
  unfold good at h
  simp at h
  exact h.2
theorem apl_gd {l : List Pt} {s : ByteArray} (h : (aplO l s).2 = true) : good (aplO l s).1.data.toList = true := by
  have u := (undo h).1
  exact (apl_yes (l := invO l) (s := (aplO l s).1) (by rw [u])).2.1
theorem apl_apO {l : List Pt} {s : ByteArray} (h1 : goodO l = true) (h2 : good s.data.toList = true) : (aplO l s).2 = (apO l s).2 ∧ ((apO l s).2 = true → (aplO l s).1 = (apO l s).1 ∧ good (apO l s).1.data.toList = true) := by
  have h3 := @apl_gd l s
  unfold aplO at h3 ⊢
  cases h : (apO l s).2 with
  | false => rw [if_neg (by simp)]; exact ⟨rfl, fun c => by cases c⟩
  | true =>
    rw [h, if_pos ⟨h1, h2, rfl⟩] at h3
    rw [if_pos ⟨h1, h2, rfl⟩]
    exact ⟨rfl, fun _ => ⟨rfl, h3 rfl⟩⟩
theorem apl_no {l : List Pt} {s : ByteArray} (h : goodO l = false) : (aplO l s).2 = false := by
  unfold aplO
  rw [h, if_neg (by simp)]
/-- Of bounded size. -/
def SmC (l : List (List Pt)) : Prop := l.length ≤ 1048576 ∧ ∀ i (hi : i < l.length), l[i].length ≤ 1048576 ∧ ∀ j (hj : j < l[i].length), l[i][j].put.size ≤ 1048576 ∧ l[i][j].drop.size ≤ 1048576
theorem szP_each {l : List Pt} {B : Nat} (h : szPn l ≤ B) (j : Nat) (hj : j < l.length) : l[j].put.size ≤ B ∧ l[j].drop.size ≤ B := by
  unfold szPn at h
  have h1 := szPU_succ l j hj
  have h2 := szPU_mono l (j + 1) l.length hj
  omega
theorem smC_of {l : List (List Pt)} (h : szCn l ≤ 1048576) : SmC l := by
  obtain ⟨h1, h2⟩ := szC_each h
  exact ⟨h1, fun i hi => ⟨by have := h2 i hi; have := szPn_len l[i]; omega, fun j hj => szP_each (h2 i hi) j hj⟩⟩
theorem PR.pin {w : World} {v : Value} {l : List Pt} (h : PR w v l) (h0 : 0 < w.heap.size) (hl : l.length ≤ 1048576) (hs : ∀ j (hj : j < l.length), l[j].put.size ≤ 1048576 ∧ l[j].drop.size ≤ 1048576) : ∃ aw g cap, v = .slice aw l.length cap ∧ Pin w aw g cap l := by
  rcases h with ⟨rfl, a, c, rfl, hc⟩ | ⟨g, cap, rfl, h1, h2, h3, h4, -⟩
  · exact ⟨a, 0, c, rfl, ⟨Nat.zero_le _, hc⟩, hs, by simp, fun j u hu => by simp [encP] at hu, h0, fun c => absurd rfl c⟩
  · exact ⟨_, g, cap, rfl, ⟨h1, h2⟩, hs, hl, h4, h3, fun _ => rfl⟩
theorem DMo.pin {K : Nat} {S : Nat → Prop} {w : World} {g off : Nat} {l : List (List Pt)} {vs : Nat → Value} (h : DMo K S w g off l vs 0) (hm : SmC l) (i : Nat) (hi : i < l.length) : ∃ aw gi cap, vs i = .slice aw l[i].length cap ∧ Pin w aw gi cap l[i] :=
  (h.op i hi (Nat.zero_le _)).pin (Nat.lt_of_le_of_lt (Nat.zero_le _) h.lt) (hm.2 i hi).1 (hm.2 i hi).2

set_option maxRecDepth 100000 in
set_option maxHeartbeats 4000000 in
/-- The model's. -/
theorem fitS {S : Nat → Prop} {w : World} {v : Value} {l : List (List Pt)} {s : ByteArray} (h : DR S w v l) (hm : SmC l) (hg : good s.data.toList = true) :
    Calls Tryd.prog 55 #[v, .string s] w fun e w' => e = .returned (.bool (fitT l s)) ∧ Below w.heap.size w w' := by
  rcases h with ⟨rfl, a, c, rfl⟩ | ⟨g, off, cap, vs, rfl, h0, a1, a2, a3⟩
  · have e0 : fitT [] s = true := rfl
    rw [e0]
    clear hg
    go_enter Tryd.func55, Tryd.ntmps55
    go_wp2
    go_loop [5] (fun i => i = .int .i64 (-1)) (fun _ => 0)
    case atStart => rfl
    case round =>
      subst hrel
      go_wp2
      go_ret
      exact ⟨rfl, Below.refl _ _⟩
  · have HL := hm.1
    have HD := hide a3
    have HM := hide hm
    unfold fitT
    clear a3 hm
    go_enter Tryd.func55, Tryd.ntmps55
    go_wp2
    go_loopw [1, 5] (fun x i wr => ∃ (k : Nat) (t : ByteArray), k ≤ l.length ∧ i = .int .i64 ((k : Int) - 1) ∧ x = .string t ∧ good t.data.toList = true ∧ Hid (fitR l.reverse s = fitR (l.take k).reverse t) ∧ Below w.heap.size w wr) (fun _ i _ => (intOf i + 1).toNat)
    case atStart => exact ⟨l.length, s, Nat.le_refl _, rfl, rfl, hg, hide (by rw [List.take_length]), Below.refl _ _⟩
    case round =>
      obtain ⟨k, t, hk, rfl, rfl, hgt, hfit, hbel⟩ := hrel
      rcases k with _ | k
      · have hfin : Hid ((fitR l.reverse s && decide (l.length ≤ 20)) = decide ((l.length : Int) ≤ 20)) := hide (by
          rw [hfit.out]
          simp only [List.take_zero, List.reverse_nil, fitR, Bool.true_and]
          apply decide_eq_decide.2
          omega)
        clear hgt hfit
        go_wp2
        go_ret
        exact ⟨by rw [hfin.out]; rfl, hbel⟩
      · have hd := HD.out.later hbel
        have c0 := hd.c k (by omega)
        obtain ⟨aw, gi, ci, ev, hp⟩ := hd.pin HM.out k (by omega)
        have hgsz := good_sz hgt
        have hst := fit_step (l := l) (k := k) (by omega) t
        have hidx : ((k + 1 : Nat) : Int) - 1 = (k : Int) := by omega
        rw [hidx]
        rw [ev] at c0
        cases hgo : goodO l[k] with
        | false =>
          have hno : Hid ((fitR l.reverse s && decide (l.length ≤ 20)) = false) := hide (by rw [hfit.out, hst, apl_no hgo]; rfl)
          have GO := hide (goodOpS hp)
          rw [hgo] at GO
          clear hp hd hfit hst hgt hgo
          go_wp2_with fail
          refine GO.out.mono ?_
          rintro e w2 ⟨rfl, hb2⟩
          have HB2 := hide (hbel.trans (hb2.mono hbel.size))
          clear hb2 c0 GO
          go_wp2
          go_ret
          exact ⟨by rw [hno.out]; rfl, HB2.out⟩
        | true =>
          obtain ⟨hap1, hap2⟩ := apl_apO hgo hgt
          have GO := hide (goodOpS hp)
          rw [hgo] at GO
          have HP := hide hp
          have AP : Hid (∀ w2, Below wr.heap.size wr w2 → _) := hide (fun w2 hb => l3Apply_any t (hp.later hb) (goodO_le hgo).1 (goodO_pk hgo) (by omega))
          have CC : Hid (∀ w2, Below wr.heap.size wr w2 → w2.cell? ⟨g, off + k, none⟩ = some (.slice aw l[k].length ci)) := hide (fun w2 hb => (World.cell?_of_block (a := ⟨g, off + k, none⟩) (hb.block _ hd.lt)).trans c0)
          clear hp hd hgo
          cases hok : (apO l[k] t).2 with
          | false =>
            have hno : Hid ((fitR l.reverse s && decide (l.length ≤ 20)) = false) := hide (by rw [hfit.out, hst, hap1, hok]; rfl)
            rw [hok] at AP
            clear hap1 hap2 hfit hst hgt hok
            go_wp2_with fail
            refine GO.out.mono ?_
            rintro e w2 ⟨rfl, hb2⟩
            have c2 := CC.out w2 hb2
            have AP2 := hide (AP.out w2 hb2)
            have HB2 := hide (hbel.trans (hb2.mono hbel.size))
            clear hb2 c0 GO AP CC
            go_wp2_with fail
            refine AP2.out.mono ?_
            rintro e w3 ⟨rfl, hb3⟩
            have HB3 := hide (HB2.out.trans (hb3.mono HB2.out.size))
            clear hb3 c2 AP2
            go_wp2
            go_ret
            exact ⟨by rw [hno.out]; rfl, HB3.out⟩
          | true =>
            obtain ⟨hap3, hap4⟩ := hap2 hok
            have hnx : Hid (fitR l.reverse s = fitR (l.take k).reverse (apO l[k] t).1) := hide (by rw [hfit.out, hst, hap1, hok, hap3]; rfl)
            have hsz2 := good_sz hap4
            have GT := hide (fun w' => goodTextS_any (apO l[k] t).1 w' (by omega))
            rw [hap4] at GT
            rw [hok] at AP
            obtain ⟨T, hT⟩ : ∃ T, (apO l[k] t).1 = T := ⟨_, rfl⟩
            rw [hT] at GT AP hnx hap4
            have HG4 := hide hap4
            clear hap1 hap2 hap3 hap4 hsz2 hfit hst hgt hok hT
            go_wp2_with fail
            refine GO.out.mono ?_
            rintro e w2 ⟨rfl, hb2⟩
            have c2 := CC.out w2 hb2
            have AP2 := hide (AP.out w2 hb2)
            have HB2 := hide (hbel.trans (hb2.mono hbel.size))
            clear hb2 c0 GO AP CC
            go_wp2_with fail
            refine AP2.out.mono ?_
            rintro e w3 ⟨rfl, hb3⟩
            have HB3 := hide (HB2.out.trans (hb3.mono HB2.out.size))
            clear hb3 c2 AP2
            go_wp2_with fail
            refine (GT.out w3).mono ?_
            rintro e w4 ⟨rfl, hw4⟩
            subst hw4
            go_wp2
            refine ⟨⟨k, T, by omega, by go_num, rfl, HG4.out, hnx, HB3.out⟩, by simp [intOf]⟩
end Go.Proofs.YtpeconmdmddkfaaDoor
