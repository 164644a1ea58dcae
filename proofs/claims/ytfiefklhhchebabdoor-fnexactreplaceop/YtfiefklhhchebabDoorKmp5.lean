/- Looking through a text: the program's lookThrough. -/
import Derived.Test.YtfiefklhhchebabDoorKmp4
set_option linter.unusedVariables false
namespace Go.Proofs.YtfiefklhhchebabDoor
open Go.RowKit
open Doc1

set_option maxRecDepth 100000 in
set_option maxHeartbeats 8000000 in
theorem lookThrough_any (p s : ByteArray) (gp gs cp cs : Nat) (w : World) (hbp : BtAt w gp p) (hbs : BtAt w gs s) (h0 : 0 < p.size) (hp : p.size ≤ 300) (hs : s.size ≤ 300) (hcp : p.size ≤ cp) (hcs : s.size ≤ cs) :
    Calls Tryd.prog 35 #[.slice (some ⟨gp, 0, none⟩) p.size cp, .slice (some ⟨gs, 0, none⟩) s.size cs] w (FdPost p s w) := by
  obtain ⟨i0, hi0, hz0, hz1, hz2⟩ := info_parts Tryd.info3
  have HP := hide (bordersIn_any p gp cp w hbp h0 hp hcp)
  have HBP := hide hbp
  have HBS := hide hbs
  have hA : 0 < p.data.toList.length := by simpa using h0
  have hAl : p.data.toList.length = p.size := by simp
  clear hbp hbs
  go_enter Tryd.func35, Tryd.ntmps35
  go_wp2_with fail
  go_step3
  go_wp2_with fail
  refine HP.out.mono ?_
  rintro e W1 ⟨rfl, hbr, hb1⟩
  have HW := hide (And.intro hbr hb1)
  have hs1 := HW.out.1.lt.2
  have HF0 : Hid (FdAt p.data.toList s.data.toList W1 (.slice none 0 0) 0 W1) := hide ⟨World.ownsRow_nil _ _ _ _, Below.refl _ _⟩
  replace HBP := hide (HBP.out.later hb1)
  replace HBS := hide (HBS.out.later hb1)
  clear hbr hb1 HP
  go_wp2
  go_step3
  go_wp2
  go_loopg [7, 8, 9, 16] s.size (fun gh v vn vk vi wr => ∃ i : Nat, i + gh = s.size ∧ vi = .int .i64 (i : Int) ∧ (∃ n : Nat, vn = .int .i64 (n : Int) ∧ Hid (n = pos p.data.toList s.data.toList i)) ∧ (∃ k : Nat, vk = .int .i64 (k : Int) ∧ Hid (k = lks p.data.toList s.data.toList i)) ∧ ∃ v0, v0 = v ∧ Hid (FdAt p.data.toList s.data.toList W1 v0 i wr))
  case atStart => exact ⟨0, by omega, rfl, ⟨0, rfl, hide (pos_0 _ _ hA).symm⟩, ⟨0, rfl, hide rfl⟩, _, rfl, HF0⟩
  case round =>
    obtain ⟨i, hig, rfl, ⟨n, rfl, HN⟩, ⟨k, rfl, HK⟩, v, hv0, HR⟩ := hrel
    subst hv0
    clear HF0
    obtain ⟨go, rfl⟩ : ∃ go, go = gk := ⟨_, rfl⟩
    by_cases hlt : i < s.size
    · have hbd := lks_bd p.data.toList s.data.toList hA (i + 1)
      have hfp := kfl_pos_le (S := s.data.toList) (m := i) hA
      have HG : Hid (s.data.toList.getD i 0 = s[i]) := hide (gd_at s i hlt)
      obtain ⟨R, hR⟩ : ∃ R, kfl p.data.toList (s.data.toList.getD i 0) (pos p.data.toList s.data.toList i) = R := ⟨_, rfl⟩
      obtain ⟨M, hM⟩ : ∃ M, lks p.data.toList s.data.toList (i + 1) = M := ⟨_, rfl⟩
      have HF : Hid (kfl p.data.toList s[i] n = R) := hide (by rw [← hR, HG.out, HN.out])
      have HL : Hid (k + 1 + kfs p.data.toList s[i] n = M + 1) := hide (by rw [← hM, lks, HG.out, HN.out, HK.out]; omega)
      have hnp : n < p.size := by rw [HN.out, ← hAl]; exact (pos_mx _ _ _ hA).lt
      have HRf := hide hR
      have HMf := hide hM
      rw [hM] at hbd
      rw [hR, hAl] at hfp
      have hM6 : M ≤ 600 := by omega
      have hk6 : k ≤ 600 := by have := HL.out; omega
      have d1 := (HBS.out.later HR.out.below).c i hlt
      clear hR hM HN HK HG hbd
      obtain ⟨wo, rfl⟩ : ∃ wo, wo = wr := ⟨_, rfl⟩
      go_wp2
      clear d1
      go_loopg [8, 9] n (fun gh vn vk wy => ∃ k : Nat, vn = .int .i64 (gh : Int) ∧ vk = .int .i64 (k : Int) ∧ gh < p.size ∧ Hid (kfl p.data.toList s[i] gh = R) ∧ Hid (k + kfs p.data.toList s[i] gh = M + 1) ∧ Hid (FdAt p.data.toList s.data.toList W1 v i wy))
      case atStart => exact ⟨k + 1, rfl, by go_num, hnp, HF, HL, HR⟩
      case round =>
        clear HR HF HL hnp hk6
        obtain ⟨k, rfl, rfl, hnp, HF, HL, HR⟩ := hrel
        obtain ⟨n, rfl⟩ : ∃ n, n = gk := ⟨_, rfl⟩
        have hkM : k ≤ M + 1 := by have := HL.out; omega
        have d2 := (HBP.out.later HR.out.below).c n hnp
        by_cases he : s[i] = p[n]
        · have q2 := u8_ne1 he
          have hRn : R = n + 1 := by rw [← HF.out, kfl_yes (by rw [gd_at p n hnp, he])]
          have hMk : M = k := by have := HL.out; rw [kfs_yes (by rw [gd_at p n hnp, he])] at this; omega
          replace hMk := hide hMk
          clear he HF HL
          by_cases hfull : n + 1 = p.size
          · have hz : (((n : Int) + 1) == (p.size : Int)) = true := by simp; omega
            have hln := fI_len p.data.toList s.data.toList i
            obtain ⟨m, hm⟩ : ∃ m, brd p.data.toList p.size = m := ⟨_, rfl⟩
            have HP2 : Hid (m = pos p.data.toList s.data.toList (i + 1)) := hide (by rw [pos_full hA (by rw [HRf.out, hRn, hAl]; exact hfull), hAl, hm])
            have hple : p.size ≤ i + 1 := by
              have := (suf_iff.1 ((full_iff (m := i) (S := s.data.toList) hA).1 (by rw [HRf.out, hRn, hAl]; exact hfull))).1
              omega
            go_wp2_with (at_builtin; (refine wpList_append_own _ rfl _ _ 33 rfl W1.heap.size 3 i0 (.int .i64 0) 1 8 Tryd.underlying33 hi0 hz0 hz1 hz2 rfl (by decide) _ _ _ rfl (World.ownsRow.alloc HR.out.own _) ⟨wr.heap.size, 0, none⟩ 1 1 [.int .i64 ((i : Int) + 1 - ((n : Int) + 1))] rfl rfl (World.news_of_block (cs := #[.int .i64 ((i : Int) + 1 - ((n : Int) + 1))]) (t := 3) (fr := (0, 0)) (heap_alloc_new wr _)) (by simp [Value.oneCell']) (by unfold maxLen; omega) (by omega) (by have := HR.out.below.size; simp; omega) ?_); intro v' w3 own3 grow3 _; (have HR3 : Hid (FdAt p.data.toList s.data.toList W1 v' (i + 1) w3) := hide (HR.out.full hA (by rw [HRf.out, hRn, hAl]; exact hfull) (by rw [hAl]; omega) own3 grow3)); (have c1 := (HW.out.1.later HR3.out.below).c (j := n) (by omega)); (rw [bF_lt (by omega), hfull, hm] at c1); (clear own3 grow3 HR))
            go_roundg (go - 1)
            case measure => omega
            case rel => exact ⟨i + 1, by omega, by go_num, ⟨m, rfl, HP2⟩, ⟨k, rfl, hide (by rw [HMf.out, hMk.out])⟩, _, rfl, HR3⟩
          · have hz : (((n : Int) + 1) == (p.size : Int)) = false := by simp; omega
            have HR2 : Hid (FdAt p.data.toList s.data.toList W1 v (i + 1) wr) := hide (HR.out.on hA (by rw [HRf.out, hRn, hAl]; omega))
            have HP2 : Hid (n + 1 = pos p.data.toList s.data.toList (i + 1)) := hide (by rw [pos_on hA (by rw [HRf.out, hRn, hAl]; omega), HRf.out, hRn])
            clear HR
            replace hRn := hide hRn
            go_wp2
            go_roundg (go - 1)
            case measure => omega
            case rel => exact ⟨i + 1, by omega, by go_num, ⟨n + 1, by go_num, HP2⟩, ⟨k, rfl, hide (by rw [HMf.out, hMk.out])⟩, _, rfl, HR2⟩
        · have q2 := u8_ne2 he
          have hne : ¬ p.data.toList.getD n 0 = s[i] := by rw [gd_at p n hnp]; exact fun e => he e.symm
          by_cases hn0 : n = 0
          · have hRn : R = 0 := by rw [← HF.out, hn0, kfl_no (by rw [← hn0]; exact hne)]
            have hMk : M = k := by have := HL.out; rw [hn0, kfs_no (by rw [← hn0]; exact hne)] at this; omega
            replace hMk := hide hMk
            replace hRn := hide hRn
            have HR2 : Hid (FdAt p.data.toList s.data.toList W1 v (i + 1) wr) := hide (HR.out.on hA (by rw [HRf.out, hRn.out]; omega))
            have HP2 : Hid (0 = pos p.data.toList s.data.toList (i + 1)) := hide (by rw [pos_on hA (by rw [HRf.out, hRn.out]; omega), HRf.out, hRn.out])
            clear he hne HF HL HR
            subst hn0
            go_wp2
            go_roundg (go - 1)
            case measure => omega
            case rel => exact ⟨i + 1, by omega, by go_num, ⟨0, rfl, HP2⟩, ⟨k, rfl, hide (by rw [HMf.out, hMk.out])⟩, _, rfl, HR2⟩
          · have hn1 : 0 < n := by omega
            have c1 := (HW.out.1.later HR.out.below).c (j := n - 1) (by omega)
            rw [bF_lt (by omega), show n - 1 + 1 = n by omega] at c1
            have hbl := brd_lt p.data.toList (k := n) (by omega)
            have ew : IntKind.i64.wrap ((n : Int) - 1) = ((n - 1 : Nat) : Int) := by rw [IntKind.wrap_i64]; omega
            have HF2 : Hid (kfl p.data.toList s[i] (brd p.data.toList n) = R) := hide (by rw [← HF.out, kfl_back hne (by omega)])
            have HL2 : Hid (k + 1 + kfs p.data.toList s[i] (brd p.data.toList n) = M + 1) := hide (by rw [← HL.out, kfs_back hne (by omega)]; omega)
            have hz : ((n : Int) == 0) = false := by simp; omega
            obtain ⟨m, hm⟩ : ∃ m, brd p.data.toList n = m := ⟨_, rfl⟩
            rw [hm] at c1 hbl HF2 HL2
            clear he hne HF HL hm
            go_wp2
            go_roundg m
            case measure => omega
            case rel => exact ⟨k + 1, rfl, by go_num, by omega, HF2, HL2, HR⟩
    · obtain rfl : i = s.size := by omega
      have HB := hide HW.out.2
      have HO : Hid (FdPost p s w (.returned (.tuple #[v, .int .i64 (k : Int)])) wr) := hide ⟨v, by rw [HK.out], own_mono HR.out.own HB.out.size, HB.out.trans (HR.out.below.mono HB.out.size)⟩
      clear HR
      go_wp2
      try rw [Exit.noGoto_ret]
      go_ret2
      exact HO.out
end Go.Proofs.YtfiefklhhchebabDoor
