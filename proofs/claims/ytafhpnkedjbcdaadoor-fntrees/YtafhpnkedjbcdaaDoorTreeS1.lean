/- The contracts of the model's own l2Kids, l2Flat, l2Shape, l2Same. -/
import Derived.Test.YtafhpnkedjbcdaaDoorNodes1
import Derived.Test.YtafhpnkedjbcdaaDoorInts1
import Derived.Test.YtafhpnkedjbcdaaDoorTreeM
namespace Go.Proofs.YtafhpnkedjbcdaaDoor
open Go.RowKit
open Doc1

theorem ndAt_get {l : List Nd} {k : Nat} (h : k < l.length) : ndAt l k = l[k] := by
  unfold ndAt; rw [List.getD_eq_getElem?_getD, List.getElem?_eq_getElem h]; rfl
def natI (l : List Nat) : List Int := l.map fun (x : Nat) => (x : Int)
theorem natI_len (l : List Nat) : (natI l).length = l.length := by simp [natI]
theorem natI_snoc (l : List Nat) (x : Nat) : natI (l ++ [x]) = natI l ++ [(x : Int)] := by simp [natI]
theorem kidsU_len (l : List Nd) (k : Nat) : ∀ i, (kidsU l k i).length ≤ i
  | 0 => by simp [kidsU]
  | i + 1 => by unfold kidsU; have := kidsU_len l k i; split <;> (try simp) <;> omega
theorem kidsU_start (l : List Nd) (k : Nat) : ∀ i, i ≤ k + 1 → kidsU l k i = []
  | 0, _ => rfl
  | i + 1, h => by unfold kidsU; rw [if_neg (by omega)]; exact kidsU_start l k i (by omega)
/-- What is known in the rounds of l2Kids. -/
structure KAt (l : List Nd) (k : Nat) (w : World) (v : Value) (i : Nat) (wr : World) : Prop where
  hi : k + 1 ≤ i
  hn : i ≤ l.length
  own : wr.ownsRow w.heap.size 3 1 v (natI (kidsU l k i)).length (ints (natI (kidsU l k i)))
  below : Below w.heap.size w wr

set_option maxHeartbeats 2000000 in
theorem l2Kids_any (l : List Nd) (k g cap : Nat) (w : World) (hk : k < l.length) (hm : l.length ≤ 2000000) (_hcap : l.length ≤ cap ∧ cap ≤ maxLen) (h : NAt w g l) (hg : g < w.heap.size) :
    Calls Tryd.prog 84 #[.slice (some ⟨g, 0, none⟩) l.length cap, .int .i64 k] w fun e w' => ∃ v, e = .returned v ∧ w'.ownsRow w.heap.size 3 1 v (natI (kids l k)).length (ints (natI (kids l k))) ∧ Below w.heap.size w w' := by
  obtain ⟨i0, hi0, hz0, hz1, hz2⟩ := info_parts Tryd.info3
  have H := hide h
  clear h
  go_enter Tryd.func84, Tryd.ntmps84
  go_wp2
  go_loopw [5, 6] (fun v i wr => ∃ m : Nat, i = .int .i64 m ∧ KAt l k w v m wr) (fun _ i _ => l.length - (intOf i).toNat)
  case atStart =>
    refine ⟨k + 1, by go_num, Nat.le_refl _, by omega, ?_, Below.refl _ _⟩
    rw [kidsU_start l k (k + 1) (Nat.le_refl _)]
    exact World.ownsRow_nil _ _ _ _
  case round =>
    obtain ⟨i, rfl, hat⟩ := hrel
    have h1 := hat.hi
    have h2 := hat.hn
    by_cases hlt : i < l.length
    · have c2 := (H.out.later hat.below hg).c2 i hlt
      have hown := hat.own
      have hbel := hat.below
      have hsz := hat.below.size
      have hkl := kidsU_len l k i
      have hnl := natI_len (kidsU l k i)
      have Hat := hide hat
      clear hat
      by_cases hu : l[i].up = (k : Int)
      · have e1 : (l[i].up == (k : Int)) = true := by rw [hu]; simp
        have HU : Hid (kidsU l k (i + 1) = kidsU l k i ++ [i]) := hide (by conv => lhs; unfold kidsU
                                                                           rw [if_pos ⟨by omega, by rw [ndAt_get hlt]; exact hu⟩])
        clear hu
        go_wp2_with (at_builtin; refine wpList_append_own _ rfl _ _ 47 rfl w.heap.size 3 i0 (.int .i64 0) 1 8 Tryd.underlying47 hi0 hz0 hz1 hz2 rfl (by decide) _ _ _ rfl (hown.alloc _) ⟨wr.heap.size, 0, none⟩ 1 1 [.int .i64 (i : Int)] rfl rfl ?c1 ?c2 ?c3 ?c4 ?c5 ?_)
        all_goals try (first | exact cell_one_new _ _ _ | rfl | (intro u hu; simp at hu; subst hu; rfl) | (unfold maxLen; omega) | omega | (simp; omega))
        intro v' w2 hown' hgrow _
        have A : Hid (KAt l k w v' (i + 1) w2) := hide ⟨by omega, by omega, by rw [HU.out, natI_snoc, List.length_append, natI_len]; simpa [ints] using hown', below_append hbel hown hsz hgrow⟩
        clear hown hown' hgrow
        go_wp2
        refine ⟨⟨i + 1, by go_num, A.out⟩, by simp [intOf]; omega⟩
      · have e1 : (l[i].up == (k : Int)) = false := by simpa using hu
        have HU : Hid (kidsU l k (i + 1) = kidsU l k i) := hide (by conv => lhs; unfold kidsU
                                                                    rw [if_neg (fun hc => hu (by rw [← ndAt_get hlt]; exact hc.2))])
        clear hu
        have A : Hid (KAt l k w _ (i + 1) wr) := hide ⟨by omega, by omega, by rw [HU.out]; exact hown, hbel⟩
        clear hown
        go_wp2
        refine ⟨⟨i + 1, by go_num, A.out⟩, by simp [intOf]; omega⟩
    · obtain rfl : i = l.length := by omega
      have hown := hat.own
      have hbel := hat.below
      clear hat
      go_wp2
      go_ret
      exact ⟨_, rfl, hown, hbel⟩
theorem ba_app (a b : List UInt8) : ba a ++ ba b = ba (a ++ b) := ba_eq (by simp [ba])
theorem ba_text (l : List Nd) (k : Nat) (h : k < l.length) : l[k].text = ba (txL l k) := by unfold txL; rw [ndAt_get h, ba_of]
theorem ba_name (l : List Nd) (k : Nat) (h : k < l.length) : l[k].name = ba (nmL l k) := by unfold nmL; rw [ndAt_get h, ba_of]

set_option maxHeartbeats 4000000 in
theorem l2Flat_any (l : List Nd) (g cap : Nat) (hm : l.length ≤ 2000000) (hcap : l.length ≤ cap ∧ cap ≤ maxLen) (hsum : ∀ k, k < l.length → (fl l k).length ≤ 4194304) :
    ∀ (d k : Nat), l.length - k ≤ d → k < l.length → ∀ w : World, NAt w g l → g < w.heap.size →
    Calls Tryd.prog 89 #[.slice (some ⟨g, 0, none⟩) l.length cap, .int .i64 k] w fun e w' => e = .returned (.string (ba (fl l k))) ∧ Below w.heap.size w w' := by
  intro d
  induction d with
  | zero => intro k h1 h2; omega
  | succ d ih =>
    intro k hd hk w h hg
    have IH := hide ih
    have K := hide (l2Kids_any l k g cap w hk hm hcap h hg)
    have Hs := hide (hsum k hk)
    have c0 := h.c0 k hk
    have c1 := h.c1 k hk
    rw [ba_name l k hk] at c0
    rw [ba_text l k hk] at c1
    have H := hide h
    have hfl := hide (fl_eq l k)
    have hflen : (nmL l k).length + (txL l k).length + ((kids l k).flatMap (fl l)).length ≤ 4194304 := by
      have := hsum k hk
      rw [fl_eq] at this
      simp only [List.length_append] at this
      omega
    have HS := hide hsum
    clear h ih hsum
    go_enter Tryd.func89, Tryd.ntmps89
    go_wp2_with fail
    refine K.out.mono ?_
    rintro e w1 ⟨v1, rfl, hown, hb1⟩
    obtain ⟨KL, hKL⟩ : ∃ KL, KL = kids l k := ⟨_, rfl⟩
    have HM : Hid (∀ x ∈ KL, k < x ∧ x < l.length) := hide (fun x hx => by rw [hKL] at hx; have := kidsU_mem l.length hx; exact ⟨this.1, this.2.1⟩)
    rw [← hKL] at hown hfl hflen
    rw [natI_len] at hown
    have hKn : KL.length ≤ l.length := by rw [hKL]; exact kidsU_len l k l.length
    have Hcell : Hid (∀ i (hi : i < KL.length), ∃ gv cap', v1 = .slice (some ⟨gv, 0, none⟩) KL.length cap' ∧ gv < w1.heap.size ∧ w1.cell? ⟨gv, i, none⟩ = some (.int .i64 (KL[i] : Int))) := hide (fun i hi => by
      obtain ⟨gv, cap', hv, -, -, -, hl, hc⟩ := own_open hown (by omega)
      exact ⟨gv, cap', hv, hl, hc i _ (by simp [ints, natI, hi])⟩)
    obtain ⟨av, cv, rfl, hcv1, hcv2⟩ : ∃ a cap, v1 = .slice a KL.length cap ∧ KL.length ≤ cap ∧ cap ≤ maxLen := by
      rcases hown.2 with ⟨rfl, h0⟩ | ⟨g, cap, cur, hv, hb, hh, hle, hm, hs, ht⟩
      · exact ⟨none, 0, by rw [h0], by omega, by unfold maxLen; omega⟩
      · exact ⟨_, cap, hv, hle, hm⟩
    clear hown hKL K
    go_wp2
    go_loopw [5, 17] (fun sv iv wr => ∃ i : Nat, iv = .int .i64 i ∧ i ≤ KL.length ∧ sv = .string (ba (txL l k ++ (KL.take i).flatMap (fl l))) ∧ Below w1.heap.size w1 wr) (fun _ iv _ => KL.length - (intOf iv).toNat)
    case atStart => exact ⟨0, rfl, Nat.zero_le _, by simp, Below.refl _ _⟩
    case round =>
      obtain ⟨i, rfl, hi, rfl, hbel⟩ := hrel
      have hB := hb1.trans (hbel.mono hb1.size)
      by_cases hlt : i < KL.length
      · obtain ⟨gv, cap', hv, hgl, e0⟩ := Hcell.out i hlt
        injection hv with hv1 hv2 hv3
        subst hv1 hv3
        have f0 := (World.cell?_of_block (a := ⟨gv, i, none⟩) (hbel.block gv hgl)).trans e0
        obtain ⟨x, hx⟩ : ∃ x, x = KL[i] := ⟨_, rfl⟩
        rw [← hx] at f0
        obtain ⟨m1, m2⟩ := HM.out x (by rw [hx]; exact List.getElem_mem hlt)
        have Ix := hide (IH.out x (by omega) m2 wr (H.out.later hB hg) (Nat.lt_of_lt_of_le hg hB.size))
        have T : Hid (txL l k ++ (KL.take (i + 1)).flatMap (fl l) = (txL l k ++ (KL.take i).flatMap (fl l)) ++ fl l x) := hide (by rw [List.take_succ_eq_append_getElem hlt, List.flatMap_append, ← hx]; simp)
        have s1 : (ba (txL l k ++ (KL.take i).flatMap (fl l))).size ≤ 4194304 := by
          rw [ba_size, List.length_append]
          have : ((KL.take i).flatMap (fl l)).length ≤ (KL.flatMap (fl l)).length := by
            conv => rhs; rw [← List.take_append_drop i KL, List.flatMap_append, List.length_append]
            omega
          omega
        have s2 : (ba (fl l x)).size ≤ 4194304 := by rw [ba_size]; exact HS.out x m2
        clear e0 hx Hcell
        go_wp2_with fail
        refine Ix.out.mono ?_
        rintro e w2 ⟨rfl, hb2⟩
        go_wp2
        refine ⟨⟨i + 1, by go_num, by omega, ?_, hbel.trans (hb2.mono hbel.size)⟩, by simp [intOf]; omega⟩
        rw [ba_app, T.out]
      · obtain rfl : i = KL.length := by omega
        have d0 := (World.cell?_of_block (a := ⟨g, k * 3, none⟩) (hB.block g hg)).trans c0
        rw [List.take_length]
        have s1 : (ba (txL l k ++ KL.flatMap (fl l))).size ≤ 4194304 := by rw [ba_size, List.length_append]; omega
        have s2 : (ba (nmL l k)).size ≤ 4194304 := by rw [ba_size]; omega
        obtain ⟨nb, hnb⟩ : ∃ nb, nb = ba (nmL l k) := ⟨_, rfl⟩
        rw [← hnb] at d0 s2
        obtain ⟨tb, htb⟩ : ∃ tb, tb = ba (txL l k ++ KL.flatMap (fl l)) := ⟨_, rfl⟩
        rw [← htb] at s1 ⊢
        have s3 : (nb ++ tb).size ≤ 8388608 := by rw [ByteArray.size_append]; omega
        clear c0 c1 Hcell
        by_cases hn : nmL l k = []
        · have e1 : nb.toList.isEmpty = true := by rw [hnb, hn, ByteArray.toList_eq]; rfl
          have E : Hid (tb = ba (fl l k)) := hide (by rw [htb, hfl.out]; simp [slL, hn])
          clear hnb htb hn
          go_wp2
          go_ret
          exact ⟨by rw [E.out]; rfl, hB⟩
        · have e1 : nb.toList.isEmpty = false := by rw [hnb, ByteArray.toList_eq, ba_list]; simpa using hn
          have E : Hid (nb ++ tb ++ ⟨#[47]⟩ = ba (fl l k)) := hide (by rw [hnb, htb, hfl.out, show (⟨#[47]⟩ : ByteArray) = ba [slash] from rfl, ba_app, ba_app]; simp [slL, hn])
          clear hnb htb hn
          go_wp2
          go_ret
          exact ⟨by rw [E.out]; rfl, hB⟩
end Go.Proofs.YtafhpnkedjbcdaaDoor
