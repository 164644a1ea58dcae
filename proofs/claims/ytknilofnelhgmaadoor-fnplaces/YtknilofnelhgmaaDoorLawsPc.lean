/- The law FnPlaces: places keep their order behind a change, a byte that is kept is found at its place, and the ends stay the ends. -/
import Derived.Test.YtknilofnelhgmaaDoorPlcM
import Derived.Test.YtknilofnelhgmaaDoorDrwM
namespace Go.Proofs.YtknilofnelhgmaaDoor
open Go.RowKit
open Doc1

/-- The loop over the normal change: every byte that is kept is where it is told to be. -/
theorem take_bd {l : List Pt} (h : goodO l = true) (k : Nat) : (0 ≤ tkL (l.take k) ∧ tkL (l.take k) ≤ 18000) ∧ (0 ≤ mkL (l.take k) ∧ mkL (l.take k) ≤ 18000) := by
  have h1 := all_bd (l.take k) (fun p hp => goodO_pk h p (List.mem_of_mem_take hp))
  have h2 := (goodO_le h).1
  have h3 : (l.take k).length ≤ 60 := by rw [List.length_take]; omega
  omega

set_option maxRecDepth 100000 in
set_option maxHeartbeats 8000000 in
theorem law_places (C C2 : Value) (w : World) (hco : CodeAt w.heap.size C w) (hco2 : CodeAt w.heap.size C2 w) (hlen : ∀ a len cap, C = .slice a len cap → len ≤ 140737488355328) (hlen2 : ∀ a len cap, C2 = .slice a len cap → len ≤ 140737488355328) (hT : Tab w) :
    Calls Tryd.prog 6 #[C, C2] w fun e w' => e = .returned (.bool true) ∧ Below w.heap.size w w' := by
  obtain ⟨a1, len, cap, rfl⟩ := hco.shape
  obtain ⟨a2, len2, cap2, rfl⟩ := hco2.shape
  have l1 := hlen a1 len cap rfl
  have l2 := hlen2 a2 len2 cap2 rfl
  clear hlen hlen2
  by_cases hl : (len : Int) + len2 ≤ 1048576
  · have H0 := hidI (drawMovePlace_any (.slice a1 len cap) w hco (by show len ≤ 1048576; omega) hT)
    replace hco2 := hidI hco2
    clear hco
    go_enter Tryd.func6, Tryd.ntmps6
    go_wp2_with fail
    refine H0.out.mono ?_
    rintro e w1 ⟨v, L, at_, f, rfl, ho, hsm, hat, hb⟩
    have T := hidI (hT.below hb)
    have R := hidI ho
    replace hsm := hidI hsm
    obtain ⟨aR, cR, rfl⟩ := own_sl ho
    clear ho H0
    cases hk : mvK L at_ with
    | false =>
      have hA : ∀ g : Bool, mvA L at_ g = 0 := fun g => by unfold mvA; rw [hk]; rfl
      have CA := hidI (moveI_own at_ f R.out T.out hsm.out)
      rw [hA, hk] at CA
      go_wp2_with fail
      refine CA.out.mono ?_
      rintro e w2 ⟨rfl, hb'⟩
      replace hb := hb.trans (hb'.mono hb.size)
      replace R := hidI (own_below R.out hb')
      replace T := hidI (hT.below hb)
      clear CA hb'
      have CA := hidI (moveS_own at_ f R.out T.out hsm.out)
      rw [hA, hk] at CA
      go_wp2_with fail
      refine CA.out.mono ?_
      rintro e w3 ⟨rfl, hb'⟩
      replace hb := hb.trans (hb'.mono hb.size)
      replace R := hidI (own_below R.out hb')
      replace T := hidI (hT.below hb)
      clear CA hb'
      go_wp2
      go_ret
      exact ⟨rfl, hb⟩
    | true =>
      obtain ⟨hg, ha0, ha1⟩ := of_decide_eq_true hk
      obtain ⟨n, rfl⟩ : ∃ n : Nat, at_ = n := ⟨at_.toNat, by omega⟩
      have hpk := goodO_pk hg
      obtain ⟨h60, ht3, hm3⟩ := goodO_le hg
      obtain ⟨hng, hnt, hnm⟩ := norm_goodO hg
      have hn60 := (goodO_le hng).1
      have hA : ∀ (m : Nat) (g : Bool), (m : Int) ≤ tkL L → mvA L (m : Int) g = (if g then ((mvR L m).2 : Int) else ((mvR L m).1 : Int)) ∧ mvK L (m : Int) = true := fun m g hm => by
        have hk' : mvK L (m : Int) = true := decide_eq_true ⟨hg, by omega, hm⟩
        unfold mvA
        rw [hk']
        simp
      obtain ⟨tk, htk⟩ : ∃ tk : Nat, tkL L = tk := ⟨(tkL L).toNat, by omega⟩
      obtain ⟨mk, hmk⟩ : ∃ mk : Nat, mkL L = mk := ⟨(mkL L).toNat, by have := (all_bd L hpk).2.1; omega⟩
      have hsT : szT L = tk := by unfold szT; rw [hg]; exact htk
      have hsM : szM L = mk := by unfold szM; rw [hg]; exact hmk
      have hlast : (mvR L tk).2 = mk := by have := mvR_last hpk (n := tk) (by omega); omega
      have hfirst := mvR_zero L
      have hnk : n ≤ tk := by omega
      have htk3 : tk ≤ 300 := by omega
      have HN := hidI (And.intro (fun m (h : m ≤ n) => mvR_le L h) (fun m (h : n ≤ m) => mvR_le L h))
      have hlohi : (mvR L n).1 ≤ (mvR L n).2 := by unfold mvR; simp
      have HK := hidI (fun (k i : Nat) (hk : k < (normL L).length) (hi : (i : Int) < (normL L)[k].keep) (hn : tkL ((normL L).take k) + i = n) => mvR_kept hpk (goodO_pk hng) hk hi hn)
      have hbnd : (mvR L n).2 ≤ 300 := by have := (mvR_le L hnk).2; omega
      have hno : norO L = normL L := by unfold norO; rw [if_pos hg]
      have hpN := hidI (take_bd hng)
      have hpKN := hidI (goodO_pk hng)
      have HAf := hidI (fun m (h : m ≤ tk) => (hA m false (by omega)).1)
      have HAt := hidI (fun m (h : m ≤ tk) => (hA m true (by omega)).1)
      have HKk := hidI (fun m (h : m ≤ tk) => (hA m false (by omega)).2)
      simp only [Bool.false_eq_true, if_false, if_true] at HAf HAt
      have HAz := HAf.out 0 (Nat.zero_le _)
      have HKz := HKk.out 0 (Nat.zero_le _)
      have HAl := HAt.out tk (Nat.le_refl _)
      have HKl := HKk.out tk (Nat.le_refl _)
      have HAn := HAf.out n hnk
      have HAm := HAt.out n hnk
      have HKn := HKk.out n hnk
      rw [hfirst] at HAz
      rw [hlast] at HAl
      simp only [Int.natCast_zero] at HAz HKz
      generalize hr1 : (mvR L n).1 = r1 at *
      generalize hr2 : (mvR L n).2 = r2 at *
      obtain ⟨r, hr, hrr⟩ : ∃ r : Nat, mvA L (n : Int) f = r ∧ r ≤ 1000 := by
        cases f
        · exact ⟨r1, HAn, by omega⟩
        · exact ⟨r2, HAm, by omega⟩
      clear hA hfirst hlast ha0 ha1 hk htk hmk hr1 hr2
      have CA := hidI (moveI_own (n : Int) f R.out T.out hsm.out)
      rw [hr, HKn] at CA
      go_wp2_with fail
      refine CA.out.mono ?_
      rintro e w2 ⟨rfl, hb'⟩
      replace hb := hb.trans (hb'.mono hb.size)
      replace R := hidI (own_below R.out hb')
      replace T := hidI (hT.below hb)
      clear CA hb'
      have CA := hidI (moveS_own (n : Int) f R.out T.out hsm.out)
      rw [hr, HKn] at CA
      go_wp2_with fail
      refine CA.out.mono ?_
      rintro e w3 ⟨rfl, hb'⟩
      replace hb := hb.trans (hb'.mono hb.size)
      replace R := hidI (own_below R.out hb')
      replace T := hidI (hT.below hb)
      clear CA hb'
      have CA := hidI (sizesS_own R.out T.out hsm.out)
      rw [hsT, hsM, hg] at CA
      go_wp2_with fail
      refine CA.out.mono ?_
      rintro e w4 ⟨rfl, hb'⟩
      replace hb := hb.trans (hb'.mono hb.size)
      replace R := hidI (own_below R.out hb')
      replace T := hidI (hT.below hb)
      clear CA hb'
      have CA := hidI (moveI_own (n : Int) false R.out T.out hsm.out)
      rw [HAn, HKn] at CA
      go_wp2_with fail
      refine CA.out.mono ?_
      rintro e w5 ⟨rfl, hb'⟩
      replace hb := hb.trans (hb'.mono hb.size)
      replace R := hidI (own_below R.out hb')
      replace T := hidI (hT.below hb)
      clear CA hb'
      have CA := hidI (moveI_own (n : Int) true R.out T.out hsm.out)
      rw [HAm, HKn] at CA
      go_wp2_with fail
      refine CA.out.mono ?_
      rintro e w6 ⟨rfl, hb'⟩
      replace hb := hb.trans (hb'.mono hb.size)
      replace R := hidI (own_below R.out hb')
      replace T := hidI (hT.below hb)
      clear CA hb'
      have CA := hidI (moveI_own 0 false R.out T.out hsm.out)
      rw [HAz, HKz] at CA
      go_wp2_with fail
      refine CA.out.mono ?_
      rintro e w7 ⟨rfl, hb'⟩
      replace hb := hb.trans (hb'.mono hb.size)
      replace R := hidI (own_below R.out hb')
      replace T := hidI (hT.below hb)
      clear CA hb'
      have CA := hidI (moveI_own (tk : Int) true R.out T.out hsm.out)
      rw [HAl, HKl] at CA
      go_wp2_with fail
      refine CA.out.mono ?_
      rintro e w8 ⟨rfl, hb'⟩
      replace hb := hb.trans (hb'.mono hb.size)
      replace R := hidI (own_below R.out hb')
      replace T := hidI (hT.below hb)
      clear CA hb'
      clear HAz HKz HAl HKl HAn HAm HKn hr
      have CN := hidI (numberOf_any (code_on hco2.out hb) (by show len2 ≤ 1048576; omega))
      go_wp2_with fail
      refine CN.out.mono ?_
      rintro e w9 ⟨x, rfl, hx, hb'⟩
      replace hb := hb.trans (hb'.mono hb.size)
      replace R := hidI (own_below R.out hb')
      replace T := hidI (hT.below hb)
      clear CN hb'
      obtain ⟨q, hq⟩ : ∃ q : Nat, q = x % (tk + 1) := ⟨_, rfl⟩
      have hqk : q ≤ tk := by have := Nat.mod_lt x (show 0 < tk + 1 by omega); omega
      have hqi : (x : Int) % ((tk : Int) + 1) = (q : Int) := by rw [hq, Int.natCast_emod, Int.natCast_add]; rfl
      clear hq
      have HAq := HAf.out q hqk
      have HAr := HAt.out q hqk
      have HKq := HKk.out q hqk
      have hle1 : q ≤ n → (mvR L q).1 ≤ r1 ∧ (mvR L q).2 ≤ r2 := fun h => HN.out.1 q h
      have hle2 : n ≤ q → r1 ≤ (mvR L q).1 ∧ r2 ≤ (mvR L q).2 := fun h => HN.out.2 q h
      generalize (mvR L q).1 = s1 at *
      generalize (mvR L q).2 = s2 at *
      clear HN
      have CA := hidI (moveI_own (q : Int) false R.out T.out hsm.out)
      rw [HAq, HKq] at CA
      go_wp2_with fail
      refine CA.out.mono ?_
      rintro e w10 ⟨rfl, hb'⟩
      replace hb := hb.trans (hb'.mono hb.size)
      replace R := hidI (own_below R.out hb')
      replace T := hidI (hT.below hb)
      clear CA hb'
      have CA := hidI (moveI_own (q : Int) true R.out T.out hsm.out)
      rw [HAr, HKq] at CA
      go_wp2_with fail
      refine CA.out.mono ?_
      rintro e w11 ⟨rfl, hb'⟩
      replace hb := hb.trans (hb'.mono hb.size)
      replace R := hidI (own_below R.out hb')
      replace T := hidI (hT.below hb)
      clear CA hb'
      clear HAq HAr HKq HAf HAt HKk
      rcases Nat.lt_trichotomy q n with hqn | hqn | hqn
      · obtain ⟨g1, g2⟩ := hle1 (by omega)
        clear hle1 hle2
        have CA := hidI (normalS_own R.out T.out hsm.out)
        rw [hno, hg] at CA
        go_wp2_with fail
        refine CA.out.mono ?_
        rintro e w12 ⟨vn, rfl, on, hb'⟩
        replace hb := hb.trans (hb'.mono hb.size)
        replace R := hidI (own_below R.out hb')
        replace T := hidI (hT.below hb)
        clear CA hb'
        have N := hidI on
        obtain ⟨aN, cN, rfl⟩ := own_sl on
        clear on
        obtain ⟨aw, g, cp, ev, hcp, hcl, hgl, hadr⟩ := own_row N.out T.out
        cases ev
        have HC := hidI hcl
        have HA := hidI hadr
        clear hcl hadr N R
        go_wp2
        go_loopw [28, 29, 190] (fun p q i wr => ∃ k : Nat, k ≤ (normL L).length ∧ i = .int .i64 k ∧ p = .int .i64 (tkL ((normL L).take k)) ∧ q = .int .i64 (mkL ((normL L).take k)) ∧ Below w12.heap.size w12 wr) (fun _ _ i _ => (normL L).length - (intOf i).toNat)
        case atStart => exact ⟨0, Nat.zero_le _, rfl, rfl, rfl, Below.refl _ _⟩
        case round =>
          obtain ⟨k, hk, rfl, rfl, rfl, hbel⟩ := hrel
          by_cases hlt : k < (normL L).length
          · obtain rfl := HA.out k hlt
            obtain ⟨c0, c1, c2⟩ := (HC.out.later hbel hgl).ptat k hlt
            have b1 := hpN.out k
            obtain ⟨⟨b2, b3⟩, b4, b5, -⟩ := pk_sizes (hpKN.out _ (List.getElem_mem hlt))
            have hs := hidI (And.intro (tkL_snoc ((normL L).take k) (normL L)[k]) (mkL_snoc ((normL L).take k) (normL L)[k]))
            have ht : (normL L).take k ++ [(normL L)[k]] = (normL L).take (k + 1) := (List.take_succ_eq_append_getElem hlt).symm
            rw [ht] at hs
            unfold tk1 mk1 at hs
            have HKk := hidI (fun (i : Nat) (hi : (i : Int) < (normL L)[k].keep) (hn : tkL ((normL L).take k) + i = n) => HK.out k i hlt hi hn)
            clear ht
            generalize tkL ((normL L).take k) = A at *
            generalize mkL ((normL L).take k) = B at *
            generalize (normL L)[k] = P at *
            obtain ⟨d0, d1, d2⟩ := cells3_new wr (.int .i64 P.keep) (.string P.put) (.string P.drop) 38
            obtain ⟨wa, hwa⟩ : ∃ wa, wa = wr.alloc (.cells #[.int .i64 P.keep, .string P.put, .string P.drop] 38) := ⟨_, rfl⟩
            have hba := hbel.alloc hbel.size (.cells #[.int .i64 P.keep, .string P.put, .string P.drop] 38)
            rw [← hwa] at d0 d1 d2 hba
            have HWA := hidI hwa
            clear hwa
            go_wp2
            rw [← HWA.out]
            go_loopw [34] (fun i wq => ∃ j : Nat, (j : Int) ≤ P.keep ∧ i = .int .i64 j ∧ wq = wa) (fun i _ => P.keep.toNat - (intOf i).toNat)
            case atStart => exact ⟨0, b2, rfl, rfl⟩
            case round =>
              obtain ⟨j, hj, rfl, hw⟩ := hrel
              subst hw
              by_cases hjk : (j : Int) < P.keep
              · by_cases hje : A + (j : Int) = n
                · obtain ⟨f1, f2⟩ := HKk.out j hjk hje
                  have f3 : (P.put.size : Int) = 0 := by omega
                  go_wp2
                  go_roundw
                  case rel => exact ⟨j + 1, by omega, by go_num, by first | rfl | trivial⟩
                  case measure => simp [intOf]; omega
                · have f4 : (A + (j : Int) == (n : Int)) = false := by simpa using hje
                  go_wp2
                  go_roundw
                  case rel => exact ⟨j + 1, by omega, by go_num, by first | rfl | trivial⟩
                  case measure => simp [intOf]; omega
              · go_wp2
                refine ⟨⟨k + 1, by omega, by go_num, by rw [hs.out.1], by rw [hs.out.2], hba⟩, by simp [intOf]; omega⟩
          · go_wp2
            go_ret
            exact ⟨rfl, hb.trans (hbel.mono hb.size)⟩
      · replace hqn := hqn.symm
        subst hqn
        obtain ⟨g1, g2⟩ := hle1 (by omega)
        obtain ⟨g3, g4⟩ := hle2 (by omega)
        clear hle1 hle2
        have CA := hidI (normalS_own R.out T.out hsm.out)
        rw [hno, hg] at CA
        go_wp2_with fail
        refine CA.out.mono ?_
        rintro e w12 ⟨vn, rfl, on, hb'⟩
        replace hb := hb.trans (hb'.mono hb.size)
        replace R := hidI (own_below R.out hb')
        replace T := hidI (hT.below hb)
        clear CA hb'
        have N := hidI on
        obtain ⟨aN, cN, rfl⟩ := own_sl on
        clear on
        obtain ⟨aw, g, cp, ev, hcp, hcl, hgl, hadr⟩ := own_row N.out T.out
        cases ev
        have HC := hidI hcl
        have HA := hidI hadr
        clear hcl hadr N R
        go_wp2
        go_loopw [28, 29, 190] (fun p q i wr => ∃ k : Nat, k ≤ (normL L).length ∧ i = .int .i64 k ∧ p = .int .i64 (tkL ((normL L).take k)) ∧ q = .int .i64 (mkL ((normL L).take k)) ∧ Below w12.heap.size w12 wr) (fun _ _ i _ => (normL L).length - (intOf i).toNat)
        case atStart => exact ⟨0, Nat.zero_le _, rfl, rfl, rfl, Below.refl _ _⟩
        case round =>
          obtain ⟨k, hk, rfl, rfl, rfl, hbel⟩ := hrel
          by_cases hlt : k < (normL L).length
          · obtain rfl := HA.out k hlt
            obtain ⟨c0, c1, c2⟩ := (HC.out.later hbel hgl).ptat k hlt
            have b1 := hpN.out k
            obtain ⟨⟨b2, b3⟩, b4, b5, -⟩ := pk_sizes (hpKN.out _ (List.getElem_mem hlt))
            have hs := hidI (And.intro (tkL_snoc ((normL L).take k) (normL L)[k]) (mkL_snoc ((normL L).take k) (normL L)[k]))
            have ht : (normL L).take k ++ [(normL L)[k]] = (normL L).take (k + 1) := (List.take_succ_eq_append_getElem hlt).symm
            rw [ht] at hs
            unfold tk1 mk1 at hs
            have HKk := hidI (fun (i : Nat) (hi : (i : Int) < (normL L)[k].keep) (hn : tkL ((normL L).take k) + i = n) => HK.out k i hlt hi hn)
            clear ht
            generalize tkL ((normL L).take k) = A at *
            generalize mkL ((normL L).take k) = B at *
            generalize (normL L)[k] = P at *
            obtain ⟨d0, d1, d2⟩ := cells3_new wr (.int .i64 P.keep) (.string P.put) (.string P.drop) 38
            obtain ⟨wa, hwa⟩ : ∃ wa, wa = wr.alloc (.cells #[.int .i64 P.keep, .string P.put, .string P.drop] 38) := ⟨_, rfl⟩
            have hba := hbel.alloc hbel.size (.cells #[.int .i64 P.keep, .string P.put, .string P.drop] 38)
            rw [← hwa] at d0 d1 d2 hba
            have HWA := hidI hwa
            clear hwa
            go_wp2
            rw [← HWA.out]
            go_loopw [34] (fun i wq => ∃ j : Nat, (j : Int) ≤ P.keep ∧ i = .int .i64 j ∧ wq = wa) (fun i _ => P.keep.toNat - (intOf i).toNat)
            case atStart => exact ⟨0, b2, rfl, rfl⟩
            case round =>
              obtain ⟨j, hj, rfl, hw⟩ := hrel
              subst hw
              by_cases hjk : (j : Int) < P.keep
              · by_cases hje : A + (j : Int) = n
                · obtain ⟨f1, f2⟩ := HKk.out j hjk hje
                  have f3 : (P.put.size : Int) = 0 := by omega
                  go_wp2
                  go_roundw
                  case rel => exact ⟨j + 1, by omega, by go_num, by first | rfl | trivial⟩
                  case measure => simp [intOf]; omega
                · have f4 : (A + (j : Int) == (n : Int)) = false := by simpa using hje
                  go_wp2
                  go_roundw
                  case rel => exact ⟨j + 1, by omega, by go_num, by first | rfl | trivial⟩
                  case measure => simp [intOf]; omega
              · go_wp2
                refine ⟨⟨k + 1, by omega, by go_num, by rw [hs.out.1], by rw [hs.out.2], hba⟩, by simp [intOf]; omega⟩
          · go_wp2
            go_ret
            exact ⟨rfl, hb.trans (hbel.mono hb.size)⟩
      · obtain ⟨g1, g2⟩ := hle2 (by omega)
        clear hle1 hle2
        have CA := hidI (normalS_own R.out T.out hsm.out)
        rw [hno, hg] at CA
        go_wp2_with fail
        refine CA.out.mono ?_
        rintro e w12 ⟨vn, rfl, on, hb'⟩
        replace hb := hb.trans (hb'.mono hb.size)
        replace R := hidI (own_below R.out hb')
        replace T := hidI (hT.below hb)
        clear CA hb'
        have N := hidI on
        obtain ⟨aN, cN, rfl⟩ := own_sl on
        clear on
        obtain ⟨aw, g, cp, ev, hcp, hcl, hgl, hadr⟩ := own_row N.out T.out
        cases ev
        have HC := hidI hcl
        have HA := hidI hadr
        clear hcl hadr N R
        go_wp2
        go_loopw [28, 29, 190] (fun p q i wr => ∃ k : Nat, k ≤ (normL L).length ∧ i = .int .i64 k ∧ p = .int .i64 (tkL ((normL L).take k)) ∧ q = .int .i64 (mkL ((normL L).take k)) ∧ Below w12.heap.size w12 wr) (fun _ _ i _ => (normL L).length - (intOf i).toNat)
        case atStart => exact ⟨0, Nat.zero_le _, rfl, rfl, rfl, Below.refl _ _⟩
        case round =>
          obtain ⟨k, hk, rfl, rfl, rfl, hbel⟩ := hrel
          by_cases hlt : k < (normL L).length
          · obtain rfl := HA.out k hlt
            obtain ⟨c0, c1, c2⟩ := (HC.out.later hbel hgl).ptat k hlt
            have b1 := hpN.out k
            obtain ⟨⟨b2, b3⟩, b4, b5, -⟩ := pk_sizes (hpKN.out _ (List.getElem_mem hlt))
            have hs := hidI (And.intro (tkL_snoc ((normL L).take k) (normL L)[k]) (mkL_snoc ((normL L).take k) (normL L)[k]))
            have ht : (normL L).take k ++ [(normL L)[k]] = (normL L).take (k + 1) := (List.take_succ_eq_append_getElem hlt).symm
            rw [ht] at hs
            unfold tk1 mk1 at hs
            have HKk := hidI (fun (i : Nat) (hi : (i : Int) < (normL L)[k].keep) (hn : tkL ((normL L).take k) + i = n) => HK.out k i hlt hi hn)
            clear ht
            generalize tkL ((normL L).take k) = A at *
            generalize mkL ((normL L).take k) = B at *
            generalize (normL L)[k] = P at *
            obtain ⟨d0, d1, d2⟩ := cells3_new wr (.int .i64 P.keep) (.string P.put) (.string P.drop) 38
            obtain ⟨wa, hwa⟩ : ∃ wa, wa = wr.alloc (.cells #[.int .i64 P.keep, .string P.put, .string P.drop] 38) := ⟨_, rfl⟩
            have hba := hbel.alloc hbel.size (.cells #[.int .i64 P.keep, .string P.put, .string P.drop] 38)
            rw [← hwa] at d0 d1 d2 hba
            have HWA := hidI hwa
            clear hwa
            go_wp2
            rw [← HWA.out]
            go_loopw [34] (fun i wq => ∃ j : Nat, (j : Int) ≤ P.keep ∧ i = .int .i64 j ∧ wq = wa) (fun i _ => P.keep.toNat - (intOf i).toNat)
            case atStart => exact ⟨0, b2, rfl, rfl⟩
            case round =>
              obtain ⟨j, hj, rfl, hw⟩ := hrel
              subst hw
              by_cases hjk : (j : Int) < P.keep
              · by_cases hje : A + (j : Int) = n
                · obtain ⟨f1, f2⟩ := HKk.out j hjk hje
                  have f3 : (P.put.size : Int) = 0 := by omega
                  go_wp2
                  go_roundw
                  case rel => exact ⟨j + 1, by omega, by go_num, by first | rfl | trivial⟩
                  case measure => simp [intOf]; omega
                · have f4 : (A + (j : Int) == (n : Int)) = false := by simpa using hje
                  go_wp2
                  go_roundw
                  case rel => exact ⟨j + 1, by omega, by go_num, by first | rfl | trivial⟩
                  case measure => simp [intOf]; omega
              · go_wp2
                refine ⟨⟨k + 1, by omega, by go_num, by rw [hs.out.1], by rw [hs.out.2], hba⟩, by simp [intOf]; omega⟩
          · go_wp2
            go_ret
            exact ⟨rfl, hb.trans (hbel.mono hb.size)⟩
  · go_enter Tryd.func6, Tryd.ntmps6
    go_wp2
    go_ret
    exact ⟨rfl, Below.refl _ _⟩
end Go.Proofs.YtknilofnelhgmaaDoor
