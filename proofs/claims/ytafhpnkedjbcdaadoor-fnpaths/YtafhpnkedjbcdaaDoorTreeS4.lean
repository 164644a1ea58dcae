/- The contracts of the model's own l2Begin and CutNode. -/
import Derived.Test.YtafhpnkedjbcdaaDoorLyW14
namespace Go.Proofs.YtafhpnkedjbcdaaDoor
open Go.RowKit
open Doc1

theorem wrap_small (x : Int) (h0 : -1000000000 ≤ x) (h1 : x ≤ 1000000000) : IntKind.i64.wrap x = x := by
  simp only [IntKind.wrap, IntKind.bits, IntKind.signed]
  simp
  omega
theorem kids_split {l : List Nd} {u k : Nat} (huk : u < k) (hu : (ndAt l k).up = (u : Int)) : ∀ n, k < n → ∃ r, kidsU l u n = kidsU l u k ++ k :: r
  | 0, h => by omega
  | n + 1, h => by
    by_cases e : n = k
    · subst e
      refine ⟨[], ?_⟩
      conv => lhs; unfold kidsU
      rw [if_pos ⟨huk, hu⟩]
    · obtain ⟨r, hr⟩ := kids_split huk hu n (by omega)
      by_cases hc : u < n ∧ (ndAt l n).up = (u : Int)
      · refine ⟨r ++ [n], ?_⟩
        conv => lhs; unfold kidsU
        rw [if_pos hc, hr]; simp
      · refine ⟨r, ?_⟩
        conv => lhs; unfold kidsU
        rw [if_neg hc, hr]
theorem bef_kids (l : List Nd) {u k : Nat} (huk : u < k) : befS l u k = ((kidsU l u k).flatMap (fl l)).length := by
  have := kids_sum l u (k - (u + 1))
  rw [show u + 1 + (k - (u + 1)) = k by omega] at this
  rw [this]; rfl
theorem nm_len {l : List Nd} {y : LS} (h : layL l = some y) {u : Nat} (hu : u < l.length) : (nmL l u).length = if nmL l u = [] then 0 else 1 := by
  by_cases h0 : u = 0
  · subst h0
    have : nmL l 0 = [] := by
      unfold layL at h
      split at h
      · cases h
      · rename_i hc
        cases ha : addAll z0 l with
        | none => rw [ha] at h; simp at h
        | some z =>
          have := (par_lay ha (fun e => hc (Or.inl e))).2
          unfold nmL
          rw [this, ba_list]
    rw [this]; rfl
  · rcases lay_within h u (by omega) hu with ⟨hn, -⟩ | ⟨hn, -⟩
    · obtain ⟨c, hc, -⟩ := nm_of hn
      have : nmL l u = [c] := hc
      rw [this]; simp
    · have : nmL l u = [] := hn
      rw [this]; simp

set_option maxRecDepth 100000 in
set_option maxHeartbeats 4000000 in
theorem begin_any {l : List Nd} {y : LS} (hy : layL l = some y) (g cap : Nat) : ∀ (n k : Nat), k < n → k < l.length → ∀ w, Nin w g cap l →
    Calls Tryd.prog 90 #[.slice (some ⟨g, 0, none⟩) l.length cap, .int .i64 (k : Int)] w fun e w' => e = .returned (.int .i64 (y.fr.getD k 0 : Int)) ∧ Below w.heap.size w w' := by
  intro n
  induction n with
  | zero => intro k h; omega
  | succ n ih =>
    intro k hk hkl w h
    have hL := laid_of hy
    have hcp := h.cap
    have hsz := h.sz
    by_cases h0 : k = 0
    · subst h0
      rw [hL.zero]
      clear h ih
      go_enter Tryd.func90, Tryd.ntmps90
      go_wp2
      go_ret
      exact ⟨rfl, Below.refl _ _⟩
    · have hk0 : ((k : Int) == 0) = false := by rw [beq_eq_false_iff_ne]; omega
      obtain ⟨u, hu, huk, hfr⟩ := fr_bef hL (by omega) hkl
      rw [nm_len hy (by omega), bef_kids l huk] at hfr
      obtain ⟨r, hr⟩ := kids_split huk hu l.length hkl
      have hul : u < l.length := by omega
      have huu : l[k].up = (u : Int) := by rw [← ndAt_get hkl]; exact hu
      have hgood := hL.good
      have htx : y.fr.getD k 0 ≤ 300 := by
        have h1 := hL.seg k hkl
        have h2 := good_fl hgood
        rw [hL.text] at h1
        omega
      have IH := hide (fun w1 (hb : Below w.heap.size w w1) => ih u (by omega) hul w1 (h.later hb))
      have KD := hide (fun w1 (hb : Below w.heap.size w w1) => l2Kids_any l u g cap w1 hul (by omega) hcp (h.later hb).at' (h.later hb).lt)
      have FL := hide (fun w1 (hb : Below w.heap.size w w1) (i : Nat) (hi : i < l.length) => flat_any (h.later hb) hgood hi)
      have c2 := h.at'.c2 k hkl
      rw [huu] at c2
      have c2' : ∀ w1, Below w.heap.size w w1 → w1.cell? ⟨g, k * 3 + 2, none⟩ = some (.int .i64 (u : Int)) := fun w1 hb => (World.cell?_of_block (hb.block g h.lt)).trans c2
      have c0' : ∀ w1, Below w.heap.size w w1 → w1.cell? ⟨g, u * 3, none⟩ = some (.string l[u].name) := fun w1 hb => (World.cell?_of_block (hb.block g h.lt)).trans (h.at'.c0 u hul)
      have C2 := hide c2'
      have C0 := hide c0'
      have hnm : (l[u].name.toList == []) = decide (nmL l u = []) := by
        unfold nmL
        rw [ndAt_get hul, ByteArray.toList_eq, Bool.eq_iff_iff]; simp
      obtain ⟨S, hS⟩ : ∃ S, S = kidsU l u k := ⟨_, rfl⟩
      obtain ⟨D, hD⟩ : ∃ D, D = (if nmL l u = [] then 0 else 1 : Nat) := ⟨_, rfl⟩
      have hkids : kids l u = S ++ k :: r := by rw [hS]; exact hr
      have hSl : S.length ≤ k := by rw [hS]; exact kidsU_len l u k
      have hSm : Hid (∀ i (hi : i < S.length), S[i] < k ∧ S[i] < l.length) := hide (fun i hi => by
        have := kidsU_mem k (by rw [← hS]; exact List.getElem_mem hi)
        omega)
      rw [← hS, ← hD] at hfr
      have hkl2 : (kids l u).length ≤ l.length := kidsU_len l u _
      have Hfr := hide hfr
      have HDb : Hid (D = if decide (nmL l u = []) then 0 else 1) := hide (by rw [hD]; by_cases e : nmL l u = [] <;> simp [e])
      clear h ih hu hr hS hD c2' c0' hL hgood huu hfr
      generalize y.fr.getD k 0 = FK at *
      generalize y.fr.getD u 0 = FU at *
      have hk64 : k ≤ 1048576 := by omega
      have key : ∀ (w1 : World), Below w.heap.size w w1 → (hd : D ≤ 1) → True := fun _ _ _ => trivial
      clear key
      have hfin : Hid (FK = FU + D + (S.flatMap (fl l)).length) := Hfr
      have hb300 : FU + D + (S.flatMap (fl l)).length ≤ 300 := by have := Hfr.out; omega
      have hpart : Hid (∀ j, j ≤ S.length → ((S.take j).flatMap (fl l)).length ≤ (S.flatMap (fl l)).length) := hide (fun j hj => by
        have e : (S.flatMap (fl l)).length = ((S.take j).flatMap (fl l)).length + ((S.drop j).flatMap (fl l)).length := by rw [← List.length_append, ← List.flatMap_append, List.take_append_drop]
        omega)
      have hstep : Hid (∀ j (hj : j < S.length), ((S.take (j + 1)).flatMap (fl l)).length = ((S.take j).flatMap (fl l)).length + (fl l S[j]).length) := hide (fun j hj => by
        rw [List.take_succ_eq_append_getElem hj, List.flatMap_append, List.length_append]; simp)
      have hcell : Hid (∀ (w2 : World) (B : Nat) (v : Value), w2.ownsRow B 3 1 v (natI (kids l u)).length (ints (natI (kids l u))) → ∃ gk ck, v = .slice (some ⟨gk, 0, none⟩) (S.length + 1 + r.length) ck ∧ S.length + 1 + r.length ≤ ck ∧ ck ≤ maxLen ∧ gk < w2.heap.size ∧ (∀ j (hj : j < S.length), w2.cell? ⟨gk, j, none⟩ = some (.int .i64 (S[j] : Int))) ∧ w2.cell? ⟨gk, S.length, none⟩ = some (.int .i64 (k : Int))) := hide (fun w2 B v ho => by
        have hlen : (natI (kids l u)).length = S.length + 1 + r.length := by rw [natI_len, hkids]; simp; omega
        obtain ⟨gk, ck, hv, h1, h2, -, h3, h4⟩ := own_open ho (by omega)
        rw [hlen] at hv h1
        refine ⟨gk, ck, hv, h1, h2, h3, fun j hj => h4 j _ ?_, h4 S.length _ ?_⟩
        · rw [hkids, ints, natI, List.getElem?_map, List.getElem?_map, List.getElem?_append_left hj, List.getElem?_eq_getElem hj]; rfl
        · rw [hkids, ints, natI, List.getElem?_map, List.getElem?_map, List.getElem?_append_right (Nat.le_refl _)]; simp)
      have hrl : S.length + 1 + r.length ≤ 1048576 := by have := hkl2; rw [hkids] at this; simp at this; omega
      have hnm2 : l[u].name.toList.isEmpty = decide (nmL l u = []) := by rw [← hnm]; cases l[u].name.toList <;> rfl
      clear hfin hkl2 hkids
      generalize decide (nmL l u = []) = bn at *
      have hDb : D = if bn then 0 else 1 := HDb.out
      cases bn with
      | true =>
        simp only [if_true] at hDb
        subst hDb
        go_enter Tryd.func90, Tryd.ntmps90
        go_wp2_with fail
        refine (IH.out w (Below.refl _ _)).mono ?_
        rintro e w1 ⟨rfl, hb1⟩
        have d2 := C2.out w1 hb1
        have d0 := C0.out w1 hb1
        go_wp2_with fail
        refine (KD.out w1 hb1).mono ?_
        rintro e w2 ⟨v, rfl, ho, hb2⟩
        obtain ⟨gk, ck, rfl, q1, q2, q3, q4, q5⟩ := hcell.out _ _ _ ho
        have hB2 := hb1.trans (hb2.mono hb1.size)
        have Q4 := hide q4
        have Q5 := hide q5
        clear d2 d0 ho q4 hb1 hb2 q5
        go_wp2
        go_loopw [5, 37] (fun av iv wr => ∃ j : Nat, iv = .int .i64 j ∧ j ≤ S.length ∧ av = .int .i64 ((FU + 0 + ((S.take j).flatMap (fl l)).length : Nat) : Int) ∧ Below w2.heap.size w2 wr) (fun _ iv _ => S.length + 1 - (intOf iv).toNat)
        case atStart => exact ⟨0, rfl, Nat.zero_le _, by simp, Below.refl _ _⟩
        case round =>
          obtain ⟨j, rfl, hj, rfl, hbel⟩ := hrel
          have hpj := hpart.out j hj
          have hBr := hB2.trans (hbel.mono hB2.size)
          by_cases hlt : j < S.length
          · have cj := (World.cell?_of_block (hbel.block gk q3)).trans (Q4.out j hlt)
            have hsj := hSm.out j hlt
            have hne : ((S[j] : Int) == (k : Int)) = false := by rw [beq_eq_false_iff_ne]; omega
            have hst := hstep.out j hlt
            have hpj1 := hpart.out (j + 1) hlt
            have F := hide (FL.out wr hBr S[j] hsj.2)
            have hbs := ba_size (fl l S[j])
            have hst2 := hide hst
            generalize (fl l S[j]).length = FS at *
            generalize S[j] = sj at *
            generalize ((S.take j).flatMap (fl l)).length = Pj at *
            clear hst
            have hlim : FU + 0 + Pj + FS ≤ 300 := by have := hst2.out; omega
            go_wp2_with fail
            refine F.out.mono ?_
            rintro e w3 ⟨rfl, hb3⟩
            go_wp2
            go_roundw
            case rel => exact ⟨j + 1, by go_num, hlt, val_i (by rw [hst2.out]; omega), hbel.trans (hb3.mono hbel.size)⟩
            case measure => simp [intOf]; omega
          · obtain rfl : j = S.length := by omega
            have cj := (World.cell?_of_block (hbel.block gk q3)).trans Q5.out
            rw [List.take_length] at *
            go_wp2
            go_ret
            exact ⟨ret_i (by have := Hfr.out; omega), hBr⟩
      | false =>
        simp only [Bool.false_eq_true, if_false] at hDb
        subst hDb
        go_enter Tryd.func90, Tryd.ntmps90
        go_wp2_with fail
        refine (IH.out w (Below.refl _ _)).mono ?_
        rintro e w1 ⟨rfl, hb1⟩
        have d2 := C2.out w1 hb1
        have d0 := C0.out w1 hb1
        go_wp2_with fail
        refine (KD.out w1 hb1).mono ?_
        rintro e w2 ⟨v, rfl, ho, hb2⟩
        obtain ⟨gk, ck, rfl, q1, q2, q3, q4, q5⟩ := hcell.out _ _ _ ho
        have hB2 := hb1.trans (hb2.mono hb1.size)
        have Q4 := hide q4
        have Q5 := hide q5
        clear d2 d0 ho q4 hb1 hb2 q5
        go_wp2
        go_loopw [5, 37] (fun av iv wr => ∃ j : Nat, iv = .int .i64 j ∧ j ≤ S.length ∧ av = .int .i64 ((FU + 1 + ((S.take j).flatMap (fl l)).length : Nat) : Int) ∧ Below w2.heap.size w2 wr) (fun _ iv _ => S.length + 1 - (intOf iv).toNat)
        case atStart => exact ⟨0, rfl, Nat.zero_le _, by simp, Below.refl _ _⟩
        case round =>
          obtain ⟨j, rfl, hj, rfl, hbel⟩ := hrel
          have hpj := hpart.out j hj
          have hBr := hB2.trans (hbel.mono hB2.size)
          by_cases hlt : j < S.length
          · have cj := (World.cell?_of_block (hbel.block gk q3)).trans (Q4.out j hlt)
            have hsj := hSm.out j hlt
            have hne : ((S[j] : Int) == (k : Int)) = false := by rw [beq_eq_false_iff_ne]; omega
            have hst := hstep.out j hlt
            have hpj1 := hpart.out (j + 1) hlt
            have F := hide (FL.out wr hBr S[j] hsj.2)
            have hbs := ba_size (fl l S[j])
            have hst2 := hide hst
            generalize (fl l S[j]).length = FS at *
            generalize S[j] = sj at *
            generalize ((S.take j).flatMap (fl l)).length = Pj at *
            clear hst
            have hlim : FU + 1 + Pj + FS ≤ 300 := by have := hst2.out; omega
            go_wp2_with fail
            refine F.out.mono ?_
            rintro e w3 ⟨rfl, hb3⟩
            go_wp2
            go_roundw
            case rel => exact ⟨j + 1, by go_num, hlt, val_i (by rw [hst2.out]; omega), hbel.trans (hb3.mono hbel.size)⟩
            case measure => simp [intOf]; omega
          · obtain rfl : j = S.length := by omega
            have cj := (World.cell?_of_block (hbel.block gk q3)).trans Q5.out
            rw [List.take_length] at *
            go_wp2
            go_ret
            exact ⟨ret_i (by have := Hfr.out; omega), hBr⟩

set_option maxRecDepth 100000 in
set_option maxHeartbeats 4000000 in
theorem cutS {w : World} {g cap : Nat} {l : List Nd} (k : Int) (h : Nin w g cap l) :
    Calls Tryd.prog 43 #[.slice (some ⟨g, 0, none⟩) l.length cap, .int .i64 k] w (CutPost l k w) := by
  have G := goodS h
  have hsz := h.sz
  have hcp := h.cap
  unfold CutPost cutA cutOk
  cases hg : goodT l with
  | false =>
    rw [hg] at G
    have HG := hide G
    clear h G
    simp only [Bool.false_eq_true, false_and, if_false, decide_false]
    go_enter Tryd.func43, Tryd.ntmps43
    go_wp2_with fail
    refine HG.out.mono ?_
    rintro e w1 ⟨rfl, hb⟩
    go_wp2
    go_ret2
    exact ⟨_, rfl, World.ownsRow_nil _ _ _ _, hb⟩
  | true =>
    rw [hg] at G
    have HG := hide G
    simp only [true_and]
    have hl0 := good_pos hg
    have I := fun w => l1In_any k 1 ((l.length : Int) - 1) w
    simp only [in_eq] at I
    by_cases hk : 1 ≤ k ∧ k < l.length
    · rw [if_pos hk, decide_eq_true hk]
      simp only [decide_eq_true hk] at I
      have HI := hide I
      obtain ⟨m, rfl⟩ : ∃ m : Nat, k = m := ⟨k.toNat, by omega⟩
      have hm : m < l.length := by omega
      have hm0 : 0 < m := by omega
      rw [Int.toNat_natCast]
      obtain ⟨y, hy⟩ : ∃ y, layL l = some y := by
        cases e : layL l with
        | none => rw [good_none e] at hg; cases hg
        | some y => exact ⟨y, rfl⟩
      rw [hy]
      simp only
      have hL := laid_of hy
      have hcd := cut_doc hy hm0 hm
      obtain ⟨e1, e2⟩ := hL.seg m hm
      have hf3 := good_fl hg
      have F0 : Hid (∀ w1, Below w.heap.size w w1 → Calls Tryd.prog 89 #[.slice (some ⟨g, 0, none⟩) l.length cap, .int .i64 0] w1 fun e w' => e = .returned (.string (ba (fl l 0))) ∧ Below w1.heap.size w1 w') := hide (fun w1 hb => flat_any (h.later hb) hg hl0)
      have Fm : Hid (∀ w1, Below w.heap.size w w1 → Calls Tryd.prog 89 #[.slice (some ⟨g, 0, none⟩) l.length cap, .int .i64 m] w1 fun e w' => e = .returned (.string (ba (fl l m))) ∧ Below w1.heap.size w1 w') := hide (fun w1 hb => flat_any (h.later hb) hg hm)
      have Bg : Hid (∀ w1, Below w.heap.size w w1 → Calls Tryd.prog 90 #[.slice (some ⟨g, 0, none⟩) l.length cap, .int .i64 m] w1 fun e w' => e = .returned (.int .i64 (y.fr.getD m 0 : Int)) ∧ Below w1.heap.size w1 w') := hide (fun w1 hb => begin_any hy g cap l.length m hm hm w1 (h.later hb))
      have hcut : cutT y m = (fl l 0).take (y.fr.getD m 0) ++ (fl l 0).drop (y.fr.getD m 0 + (fl l m).length) := by
        unfold cutT
        rw [hL.text, e1]
      rw [hcut] at hcd ⊢
      rw [hL.text] at e2
      have T : Hid (∀ w1, Calls Tryd.prog 79 #[.string ((ba (fl l 0)).extract 0 (y.fr.getD m 0) ++ (ba (fl l 0)).extract (y.fr.getD m 0 + (fl l m).length) (fl l 0).length)] w1 fun e w' => ∃ v, e = .returned v ∧ NOwn w' w1.heap.size v (tree ((fl l 0).take (y.fr.getD m 0) ++ (fl l 0).drop (y.fr.getD m 0 + (fl l m).length))) ∧ Below w1.heap.size w1 w') := hide (fun w1 => by
        have e : ((ba (fl l 0)).extract 0 (y.fr.getD m 0) ++ (ba (fl l 0)).extract (y.fr.getD m 0 + (fl l m).length) (fl l 0).length).data.toList = (fl l 0).take (y.fr.getD m 0) ++ (fl l 0).drop (y.fr.getD m 0 + (fl l m).length) := by
          simp [ba]
          exact List.take_of_length_le (by simp)
        have := l2Tree_any ((ba (fl l 0)).extract 0 (y.fr.getD m 0) ++ (ba (fl l 0)).extract (y.fr.getD m 0 + (fl l m).length) (fl l 0).length) w1 (by rw [e]; exact hcd)
        rw [e] at this
        exact this)
      have hs0 := ba_size (fl l 0)
      have hsm := ba_size (fl l m)
      rw [e1] at e2
      clear h G I hcut e1 hcd hL hy
      generalize y.fr.getD m 0 = FM at *
      go_enter Tryd.func43, Tryd.ntmps43
      go_wp2_with fail
      refine HG.out.mono ?_
      rintro e w1 ⟨rfl, hb⟩
      go_wp2_with (go_at_call 62; refine (HI.out _).mono ?_; rintro e w' ⟨rfl, hw⟩; replace hw := hw.symm; subst hw)
      refine (F0.out w1 hb).mono ?_
      rintro e w2 ⟨rfl, hb2⟩
      have hB2 := hb.trans (hb2.mono hb.size)
      go_wp2_with fail
      refine (Bg.out w2 hB2).mono ?_
      rintro e w3 ⟨rfl, hb3⟩
      have hB3 := hB2.trans (hb3.mono hB2.size)
      clear hb hb2 hb3
      have u1 : (FM : Int) ≤ ((fl l 0).length : Int) := by omega
      have u2 : (FM : Int) + ((fl l m).length : Int) ≤ ((fl l 0).length : Int) := by omega
      have u3 : (0 : Int) ≤ (FM : Int) + ((fl l m).length : Int) := by omega
      have u4 : (0 : Int) ≤ (FM : Int) := by omega
      have hwr : IntKind.i64.wrap ((FM : Int) + ((fl l m).length : Int)) = (FM : Int) + ((fl l m).length : Int) := wrap_small _ (by omega) (by omega)
      have hFn : ((FM : Int) + ((fl l m).length : Int)).toNat = FM + (fl l m).length := by omega
      go_wp2_with fail
      go_region_with (first
        | (go_at_call 89; refine (Fm.out _ hB3.drew).mono ?_; rintro e w4 ⟨rfl, hb4⟩)
        | (go_at_call 79; refine (T.out _).mono ?_; rintro e w5 ⟨v5, rfl, o5, hb5⟩))
      all_goals
        go_wp2
        go_ret2
        have hB4 := hB3.drew.trans (hb4.mono hB3.drew.size)
        exact ⟨v5, rfl, NOwn.mono o5 hB4.size, hB4.trans (hb5.mono hB4.size)⟩
    · rw [if_neg hk, decide_eq_false hk]
      simp only [decide_eq_false hk] at I
      have HI := hide I
      clear h G I
      go_enter Tryd.func43, Tryd.ntmps43
      go_wp2_with fail
      refine HG.out.mono ?_
      rintro e w1 ⟨rfl, hb⟩
      go_wp2_with (go_at_call 62; refine (HI.out _).mono ?_; rintro e w' ⟨rfl, hw⟩; replace hw := hw.symm; subst hw)
      go_ret2
      exact ⟨_, rfl, World.ownsRow_nil _ _ _ _, hb⟩
end Go.Proofs.YtafhpnkedjbcdaaDoor
