/- Looking through a text: the model's l11Find and the program's lookThrough. Looking through a text: the program's lookThrough. FindAll and StepsOf, the program's and the model's. -/
import Derived.Test.YtfiefklhhchebabDoorKmp3
set_option linter.unusedVariables false
namespace Go.Proofs.YtfiefklhhchebabDoor
open Go.RowKit
open Doc1

/-- The places found within the first i. -/
def fI (A S : List UInt8) (i : Nat) : List Int := (fnd A S i).map fun (k : Nat) => (k : Int)
theorem fI_len (A S : List UInt8) (i : Nat) : (fI A S i).length ≤ i := by unfold fI; rw [List.length_map]; exact fnd_len A S i
theorem fI_0 (A S : List UInt8) : fI A S 0 = [] := rfl
/-- What is known in the rounds of the search. -/
structure FdAt (A S : List UInt8) (W1 : World) (v : Value) (i : Nat) (wr : World) : Prop where
  own : IOwn wr W1.heap.size v (fI A S i)
  below : Below W1.heap.size W1 wr
theorem FdAt.later {A S : List UInt8} {W1 : World} {v : Value} {i : Nat} {w w1 : World} (h : FdAt A S W1 v i w) (hb : Below w.heap.size w w1) : FdAt A S W1 v i w1 :=
  ⟨own_below h.own hb, h.below.trans (hb.mono h.below.size)⟩
theorem FdAt.drewN {A S : List UInt8} {W1 : World} {v : Value} {i : Nat} {w : World} (h : FdAt A S W1 v i w) (k : Nat) : FdAt A S W1 v i (w.drewN k) := h.later (below_dN (Below.refl _ _) k)
/-- A byte that ends no p. -/
theorem FdAt.on {A S : List UInt8} {W1 : World} {v : Value} {i : Nat} {w : World} (h : FdAt A S W1 v i w) (hA : 0 < A.length) (he : kfl A (S.getD i 0) (pos A S i) ≠ A.length) : FdAt A S W1 v (i + 1) w :=
  ⟨by have := h.own; unfold fI at this ⊢; rw [fnd_on hA he]; exact this, h.below⟩
/-- A byte that ends one. -/
theorem FdAt.full {A S : List UInt8} {W1 : World} {v v' : Value} {i : Nat} {w w2 : World} {o : Obj} {x : Int} (h : FdAt A S W1 v i w) (hA : 0 < A.length) (he : kfl A (S.getD i 0) (pos A S i) = A.length) (hx : x = ((i + 1 - A.length : Nat) : Int))
    (ho : w2.ownsRow W1.heap.size 3 1 v' ((fI A S i).length + 1) (ints (fI A S i) ++ [.int .i64 x])) (hg : (w.alloc o).grownBy w2 v.ownBlock) : FdAt A S W1 v' (i + 1) w2 := by
  refine ⟨?_, below_append h.below h.own h.below.size hg⟩
  have e : fI A S (i + 1) = fI A S i ++ [x] := by unfold fI; rw [fnd_full hA he, List.map_append, hx]; rfl
  unfold IOwn
  rw [e, List.length_append]
  unfold ints at ho ⊢
  rw [List.map_append]
  exact ho

/-- What the search leaves. -/
def FdPost (p s : ByteArray) (w : World) (e : Ending) (w' : World) : Prop := ∃ v, e = .returned (.tuple #[v, .int .i64 (lks p.data.toList s.data.toList s.size : Int)]) ∧ IOwn w' w.heap.size v (fI p.data.toList s.data.toList s.size) ∧ Below w.heap.size w w'

set_option maxRecDepth 100000 in
set_option maxHeartbeats 8000000 in
theorem l11Find_any (p s : ByteArray) (w : World) (h0 : 0 < p.size) (hp : p.size ≤ 300) (hs : s.size ≤ 300) :
    Calls Tryd.prog 44 #[.string p, .string s] w (FdPost p s w) := by
  obtain ⟨i0, hi0, hz0, hz1, hz2⟩ := info_parts Tryd.info3
  have HP := hide (l11Borders_any p w h0 hp)
  have hA : 0 < p.data.toList.length := by simpa using h0
  have hAl : p.data.toList.length = p.size := by simp
  go_enter Tryd.func44, Tryd.ntmps44
  go_wp2_with fail
  refine HP.out.mono ?_
  rintro e W1 ⟨rfl, hbr, hb1⟩
  have HW := hide (And.intro hbr hb1)
  have hs1 := HW.out.1.lt.2
  have HF0 : Hid (FdAt p.data.toList s.data.toList W1 (.slice none 0 0) 0 W1) := hide ⟨World.ownsRow_nil _ _ _ _, Below.refl _ _⟩
  clear hbr hb1 HP
  go_wp2
  go_loopw [7, 8, 9, 10] (fun v vk vn vi wr => ∃ i : Nat, i ≤ s.size ∧ vi = .int .i64 (i : Int) ∧ (∃ n : Nat, vn = .int .i64 (n : Int) ∧ Hid (n = pos p.data.toList s.data.toList i)) ∧ (∃ k : Nat, vk = .int .i64 (k : Int) ∧ Hid (k = lks p.data.toList s.data.toList i)) ∧ ∃ v0, v0 = v ∧ Hid (FdAt p.data.toList s.data.toList W1 v0 i wr)) (fun _ _ _ vi _ => s.size - (intOf vi).toNat)
  case atStart => exact ⟨0, by omega, rfl, ⟨0, rfl, hide (pos_0 _ _ hA).symm⟩, ⟨0, rfl, hide rfl⟩, _, rfl, HF0⟩
  case round =>
    obtain ⟨i, hi, rfl, ⟨n, rfl, HN⟩, ⟨k, rfl, HK⟩, v, hv0, HR⟩ := hrel
    subst hv0
    clear HF0
    by_cases hlt : i < s.size
    · have hbd := lks_bd p.data.toList s.data.toList hA (i + 1)
      have hfp := kfl_pos_le (S := s.data.toList) (m := i) hA
      have HG : Hid (s.data.toList.getD i 0 = s[i]) := hide (gd_at s i hlt)
      obtain ⟨R, hR⟩ : ∃ R, kfl p.data.toList (s.data.toList.getD i 0) (pos p.data.toList s.data.toList i) = R := ⟨_, rfl⟩
      obtain ⟨M, hM⟩ : ∃ M, lks p.data.toList s.data.toList (i + 1) = M := ⟨_, rfl⟩
      have HF : Hid (kfl p.data.toList s[i] n = R) := hide (by rw [← hR, HG.out, HN.out])
      have HL : Hid (k + kfs p.data.toList s[i] n = M) := hide (by rw [← hM, lks, HG.out, HN.out, HK.out])
      have hnp : n < p.size := by rw [HN.out, ← hAl]; exact (pos_mx _ _ _ hA).lt
      have HRf := hide hR
      have HMf := hide hM
      rw [hM] at hbd
      rw [hR, hAl] at hfp
      have hM6 : M ≤ 600 := by omega
      clear hR hM HN HK HG hbd
      go_wp2
      go_loopw [8, 9] (fun vk vn wy => ∃ n k : Nat, vn = .int .i64 (n : Int) ∧ vk = .int .i64 (k : Int) ∧ n < p.size ∧ Hid (kfl p.data.toList s[i] n = R) ∧ Hid (k + kfs p.data.toList s[i] n = M) ∧ Hid (FdAt p.data.toList s.data.toList W1 v i wy)) (fun _ vn _ => (intOf vn).toNat)
      case atStart => exact ⟨n, k, rfl, rfl, hnp, HF, HL, HR⟩
      case round =>
        clear HR HF HL hnp
        obtain ⟨n, k, rfl, rfl, hnp, HF, HL, HR⟩ := hrel
        have hkM : k ≤ M := by have := HL.out; omega
        by_cases he : s[i] = p[n]
        · have q1 := u8_beq he
          have q2 := u8_ne1 he
          have hRn : R = n + 1 := by rw [← HF.out, kfl_yes (by rw [gd_at p n hnp, he])]
          have hMk : M = k + 1 := by rw [← HL.out, kfs_yes (by rw [gd_at p n hnp, he])]
          replace hMk := hide hMk
          clear he HF HL
          by_cases hfull : n + 1 = p.size
          · have hz : (((n : Int) + 1) == (p.size : Int)) = true := by simp; omega
            have hfl := HR.out.own.1
            have hln := fI_len p.data.toList s.data.toList i
            obtain ⟨m, hm⟩ : ∃ m, brd p.data.toList p.size = m := ⟨_, rfl⟩
            have HP2 : Hid (m = pos p.data.toList s.data.toList (i + 1)) := hide (by rw [pos_full hA (by rw [HRf.out, hRn, hAl]; exact hfull), hAl, hm])
            have hple : p.size ≤ i + 1 := by
              have := (suf_iff.1 ((full_iff (m := i) (S := s.data.toList) hA).1 (by rw [HRf.out, hRn, hAl]; exact hfull))).1
              omega
            by_cases hn0 : n = 0
            · subst hn0
              go_wp2
              go_quiet (fail)
              replace HR := hide (HR.out.drewN nq)
              generalize wr.drewN nq = wq at HR ⊢
              go_wp2
              go_quiet (fail)
              replace HR := hide (HR.out.drewN nq)
              generalize wq.drewN nq = wp at HR ⊢
              have ew : IntKind.i64.wrap ((1 : Int) - 1) = ((p.size - 1 : Nat) : Int) := by rw [IntKind.wrap_i64]; omega
              have e1 : ((1 : Int) - 1) = ((p.size - 1 : Nat) : Int) := by omega
              go_wp2_with (at_builtin; (refine wpList_append_own _ rfl _ _ 33 rfl W1.heap.size 3 i0 (.int .i64 0) 1 8 Tryd.underlying33 hi0 hz0 hz1 hz2 rfl (by decide) _ _ _ rfl (World.ownsRow.alloc HR.out.own _) ⟨wp.heap.size, 0, none⟩ 1 1 [.int .i64 (i : Int)] rfl rfl (World.news_of_block (cs := #[.int .i64 (i : Int)]) (t := 3) (fr := (0, 0)) (heap_alloc_new wp _)) (by simp [Value.oneCell']) (by unfold maxLen; omega) (by omega) (by have := HR.out.below.size; simp; omega) ?_); intro v' w3 own3 grow3 _; (have HR3 : Hid (FdAt p.data.toList s.data.toList W1 v' (i + 1) w3) := hide (HR.out.full hA (by rw [HRf.out, hRn, hAl]; exact hfull) (by rw [hAl]; omega) own3 grow3)); (have c1 := (HW.out.1.later HR3.out.below).c (j := p.size - 1) (by omega)); (rw [bF_lt (by omega), show p.size - 1 + 1 = p.size by omega, hm] at c1); (clear own3 grow3 HR))
              exact ⟨⟨i + 1, by omega, by go_num, ⟨m, rfl, HP2⟩, ⟨k + 1, by go_num, hide (by rw [HMf.out, hMk.out])⟩, _, rfl, HR3⟩, by simp [intOf]; omega⟩
            · have hn1 : 0 < n := by omega
              go_wp2
              go_quiet (fail)
              replace HR := hide (HR.out.drewN nq)
              generalize wr.drewN nq = wq at HR ⊢
              go_wp2
              go_quiet (fail)
              replace HR := hide (HR.out.drewN nq)
              generalize wq.drewN nq = wp at HR ⊢
              have ew : IntKind.i64.wrap ((n : Int) + 1 - 1) = ((p.size - 1 : Nat) : Int) := by rw [IntKind.wrap_i64]; omega
              go_wp2_with (at_builtin; (refine wpList_append_own _ rfl _ _ 33 rfl W1.heap.size 3 i0 (.int .i64 0) 1 8 Tryd.underlying33 hi0 hz0 hz1 hz2 rfl (by decide) _ _ _ rfl (World.ownsRow.alloc HR.out.own _) ⟨wp.heap.size, 0, none⟩ 1 1 [.int .i64 ((i : Int) + 1 - ((n : Int) + 1))] rfl rfl (World.news_of_block (cs := #[.int .i64 ((i : Int) + 1 - ((n : Int) + 1))]) (t := 3) (fr := (0, 0)) (heap_alloc_new wp _)) (by simp [Value.oneCell']) (by unfold maxLen; omega) (by omega) (by have := HR.out.below.size; simp; omega) ?_); intro v' w3 own3 grow3 _; (have HR3 : Hid (FdAt p.data.toList s.data.toList W1 v' (i + 1) w3) := hide (HR.out.full hA (by rw [HRf.out, hRn, hAl]; exact hfull) (by rw [hAl]; omega) own3 grow3)); (have c1 := (HW.out.1.later HR3.out.below).c (j := n) (by omega)); (rw [bF_lt (by omega), hfull, hm] at c1); (clear own3 grow3 HR))
              exact ⟨⟨i + 1, by omega, by go_num, ⟨m, rfl, HP2⟩, ⟨k + 1, by go_num, hide (by rw [HMf.out, hMk.out])⟩, _, rfl, HR3⟩, by simp [intOf]; omega⟩
          · have hz : (((n : Int) + 1) == (p.size : Int)) = false := by simp; omega
            have HR2 : Hid (FdAt p.data.toList s.data.toList W1 v (i + 1) wr) := hide (HR.out.on hA (by rw [HRf.out, hRn, hAl]; omega))
            have HP2 : Hid (n + 1 = pos p.data.toList s.data.toList (i + 1)) := hide (by rw [pos_on hA (by rw [HRf.out, hRn, hAl]; omega), HRf.out, hRn])
            clear HR
            replace hRn := hide hRn
            by_cases hn0 : n = 0
            · subst hn0
              go_wp2
              go_quiet (fail)
              go_wp2
              go_quiet (fail)
              go_wp2
              exact ⟨⟨i + 1, by omega, by go_num, ⟨0 + 1, by go_num, HP2⟩, ⟨k + 1, by go_num, hide (by rw [HMf.out, hMk.out])⟩, _, rfl, hide (HR2.out.drewN _)⟩, by simp [intOf]; omega⟩
            · have hn1 : 0 < n := by omega
              go_wp2
              go_quiet (fail)
              go_wp2
              go_quiet (fail)
              go_wp2
              exact ⟨⟨i + 1, by omega, by go_num, ⟨n + 1, by go_num, HP2⟩, ⟨k + 1, by go_num, hide (by rw [HMf.out, hMk.out])⟩, _, rfl, hide (HR2.out.drewN _)⟩, by simp [intOf]; omega⟩
        · have q1 := u8_bne he
          have q2 := u8_ne2 he
          have hne : ¬ p.data.toList.getD n 0 = s[i] := by rw [gd_at p n hnp]; exact fun e => he e.symm
          by_cases hn0 : n = 0
          · subst hn0
            have hRn : R = 0 := by rw [← HF.out, kfl_no hne]
            have hMk : M = k + 1 := by rw [← HL.out, kfs_no hne]
            replace hMk := hide hMk
            replace hRn := hide hRn
            have HR2 : Hid (FdAt p.data.toList s.data.toList W1 v (i + 1) wr) := hide (HR.out.on hA (by rw [HRf.out, hRn.out]; omega))
            have HP2 : Hid (0 = pos p.data.toList s.data.toList (i + 1)) := hide (by rw [pos_on hA (by rw [HRf.out, hRn.out]; omega), HRf.out, hRn.out])
            have hz : (((0 : Int)) == (p.size : Int)) = false := by simp; omega
            clear he hne HF HL HR
            go_wp2
            go_quiet (fail)
            go_wp2
            go_quiet (fail)
            go_wp2
            exact ⟨⟨i + 1, by omega, by go_num, ⟨0, rfl, HP2⟩, ⟨k + 1, by go_num, hide (by rw [HMf.out, hMk.out])⟩, _, rfl, hide (HR2.out.drewN _)⟩, by simp [intOf]; omega⟩
          · have hn1 : 0 < n := by omega
            have c1 := (HW.out.1.later HR.out.below).c (j := n - 1) (by omega)
            rw [bF_lt (by omega), show n - 1 + 1 = n by omega] at c1
            have hbl := brd_lt p.data.toList (k := n) (by omega)
            have ew : IntKind.i64.wrap ((n : Int) - 1) = ((n - 1 : Nat) : Int) := by rw [IntKind.wrap_i64]; omega
            have HF2 : Hid (kfl p.data.toList s[i] (brd p.data.toList n) = R) := hide (by rw [← HF.out, kfl_back hne (by omega)])
            have HL2 : Hid (k + 1 + kfs p.data.toList s[i] (brd p.data.toList n) = M) := hide (by rw [← HL.out, kfs_back hne (by omega)]; omega)
            obtain ⟨m, hm⟩ : ∃ m, brd p.data.toList n = m := ⟨_, rfl⟩
            rw [hm] at c1 hbl HF2 HL2
            clear he hne HF HL hm
            go_wp2
            go_quiet (fail)
            go_wp2
            exact ⟨⟨m, k + 1, rfl, by go_num, by omega, HF2, HL2, hide (HR.out.drewN _)⟩, by simp [intOf]; omega⟩
    · obtain rfl : i = s.size := by omega
      have HB := hide HW.out.2
      have HO : Hid (FdPost p s w (.returned (.tuple #[v, .int .i64 (k : Int)])) wr) := hide ⟨v, by rw [HK.out], own_mono HR.out.own HB.out.size, HB.out.trans (HR.out.below.mono HB.out.size)⟩
      clear HR
      go_wp2
      go_ret2
      exact HO.out
end Go.Proofs.YtfiefklhhchebabDoor

set_option linter.unusedVariables false
namespace Go.Proofs.YtfiefklhhchebabDoor
open Go.RowKit
open Doc1

set_option maxRecDepth 100000 in
set_option maxHeartbeats 8000000 in
theorem lookThrough_any (p s : ByteArray) (gp gs cp cs : Nat) (w : World) (hbp : BtAt w gp p) (hbs : BtAt w gs s) (h0 : 0 < p.size) (hp : p.size ≤ 300) (hs : s.size ≤ 300) (hcp : p.size ≤ cp) (hcs : s.size ≤ cs) :
    Calls Tryd.prog 35 #[.slice (some ⟨gp, 0, none⟩) p.size cp, .slice (some ⟨gs, 0, none⟩) s.size cs] w (FdPost p s w) := by
  obtain ⟨i0, hi0, hz0, hz1, hz2⟩ := info_parts Tryd.info3
  have HP := hide (bordersIn_any p gp cp w hbp h0 hp hcp)
  have HBP := hide hbp
  have HBS := hide hbs
  have hA : 0 < p.data.toList.length := by simpa using h0
  have hAl : p.data.toList.length = p.size := by simp
  clear hbp hbs
  go_enter Tryd.func35, Tryd.ntmps35
  go_wp2_with fail
  go_step3
  go_wp2_with fail
  refine HP.out.mono ?_
  rintro e W1 ⟨rfl, hbr, hb1⟩
  have HW := hide (And.intro hbr hb1)
  have hs1 := HW.out.1.lt.2
  have HF0 : Hid (FdAt p.data.toList s.data.toList W1 (.slice none 0 0) 0 W1) := hide ⟨World.ownsRow_nil _ _ _ _, Below.refl _ _⟩
  replace HBP := hide (HBP.out.later hb1)
  replace HBS := hide (HBS.out.later hb1)
  clear hbr hb1 HP
  go_wp2
  go_step3
  go_wp2
  go_loopg [7, 8, 9, 16] s.size (fun gh v vn vk vi wr => ∃ i : Nat, i + gh = s.size ∧ vi = .int .i64 (i : Int) ∧ (∃ n : Nat, vn = .int .i64 (n : Int) ∧ Hid (n = pos p.data.toList s.data.toList i)) ∧ (∃ k : Nat, vk = .int .i64 (k : Int) ∧ Hid (k = lks p.data.toList s.data.toList i)) ∧ ∃ v0, v0 = v ∧ Hid (FdAt p.data.toList s.data.toList W1 v0 i wr))
  case atStart => exact ⟨0, by omega, rfl, ⟨0, rfl, hide (pos_0 _ _ hA).symm⟩, ⟨0, rfl, hide rfl⟩, _, rfl, HF0⟩
  case round =>
    obtain ⟨i, hig, rfl, ⟨n, rfl, HN⟩, ⟨k, rfl, HK⟩, v, hv0, HR⟩ := hrel
    subst hv0
    clear HF0
    obtain ⟨go, rfl⟩ : ∃ go, go = gk := ⟨_, rfl⟩
    by_cases hlt : i < s.size
    · have hbd := lks_bd p.data.toList s.data.toList hA (i + 1)
      have hfp := kfl_pos_le (S := s.data.toList) (m := i) hA
      have HG : Hid (s.data.toList.getD i 0 = s[i]) := hide (gd_at s i hlt)
      obtain ⟨R, hR⟩ : ∃ R, kfl p.data.toList (s.data.toList.getD i 0) (pos p.data.toList s.data.toList i) = R := ⟨_, rfl⟩
      obtain ⟨M, hM⟩ : ∃ M, lks p.data.toList s.data.toList (i + 1) = M := ⟨_, rfl⟩
      have HF : Hid (kfl p.data.toList s[i] n = R) := hide (by rw [← hR, HG.out, HN.out])
      have HL : Hid (k + 1 + kfs p.data.toList s[i] n = M + 1) := hide (by rw [← hM, lks, HG.out, HN.out, HK.out]; omega)
      have hnp : n < p.size := by rw [HN.out, ← hAl]; exact (pos_mx _ _ _ hA).lt
      have HRf := hide hR
      have HMf := hide hM
      rw [hM] at hbd
      rw [hR, hAl] at hfp
      have hM6 : M ≤ 600 := by omega
      have hk6 : k ≤ 600 := by have := HL.out; omega
      have d1 := (HBS.out.later HR.out.below).c i hlt
      clear hR hM HN HK HG hbd
      obtain ⟨wo, rfl⟩ : ∃ wo, wo = wr := ⟨_, rfl⟩
      go_wp2
      clear d1
      go_loopg [8, 9] n (fun gh vn vk wy => ∃ k : Nat, vn = .int .i64 (gh : Int) ∧ vk = .int .i64 (k : Int) ∧ gh < p.size ∧ Hid (kfl p.data.toList s[i] gh = R) ∧ Hid (k + kfs p.data.toList s[i] gh = M + 1) ∧ Hid (FdAt p.data.toList s.data.toList W1 v i wy))
      case atStart => exact ⟨k + 1, rfl, by go_num, hnp, HF, HL, HR⟩
      case round =>
        clear HR HF HL hnp hk6
        obtain ⟨k, rfl, rfl, hnp, HF, HL, HR⟩ := hrel
        obtain ⟨n, rfl⟩ : ∃ n, n = gk := ⟨_, rfl⟩
        have hkM : k ≤ M + 1 := by have := HL.out; omega
        have d2 := (HBP.out.later HR.out.below).c n hnp
        by_cases he : s[i] = p[n]
        · have q2 := u8_ne1 he
          have hRn : R = n + 1 := by rw [← HF.out, kfl_yes (by rw [gd_at p n hnp, he])]
          have hMk : M = k := by have := HL.out; rw [kfs_yes (by rw [gd_at p n hnp, he])] at this; omega
          replace hMk := hide hMk
          clear he HF HL
          by_cases hfull : n + 1 = p.size
          · have hz : (((n : Int) + 1) == (p.size : Int)) = true := by simp; omega
            have hln := fI_len p.data.toList s.data.toList i
            obtain ⟨m, hm⟩ : ∃ m, brd p.data.toList p.size = m := ⟨_, rfl⟩
            have HP2 : Hid (m = pos p.data.toList s.data.toList (i + 1)) := hide (by rw [pos_full hA (by rw [HRf.out, hRn, hAl]; exact hfull), hAl, hm])
            have hple : p.size ≤ i + 1 := by
              have := (suf_iff.1 ((full_iff (m := i) (S := s.data.toList) hA).1 (by rw [HRf.out, hRn, hAl]; exact hfull))).1
              omega
            go_wp2_with (at_builtin; (refine wpList_append_own _ rfl _ _ 33 rfl W1.heap.size 3 i0 (.int .i64 0) 1 8 Tryd.underlying33 hi0 hz0 hz1 hz2 rfl (by decide) _ _ _ rfl (World.ownsRow.alloc HR.out.own _) ⟨wr.heap.size, 0, none⟩ 1 1 [.int .i64 ((i : Int) + 1 - ((n : Int) + 1))] rfl rfl (World.news_of_block (cs := #[.int .i64 ((i : Int) + 1 - ((n : Int) + 1))]) (t := 3) (fr := (0, 0)) (heap_alloc_new wr _)) (by simp [Value.oneCell']) (by unfold maxLen; omega) (by omega) (by have := HR.out.below.size; simp; omega) ?_); intro v' w3 own3 grow3 _; (have HR3 : Hid (FdAt p.data.toList s.data.toList W1 v' (i + 1) w3) := hide (HR.out.full hA (by rw [HRf.out, hRn, hAl]; exact hfull) (by rw [hAl]; omega) own3 grow3)); (have c1 := (HW.out.1.later HR3.out.below).c (j := n) (by omega)); (rw [bF_lt (by omega), hfull, hm] at c1); (clear own3 grow3 HR))
            go_roundg (go - 1)
            case measure => omega
            case rel => exact ⟨i + 1, by omega, by go_num, ⟨m, rfl, HP2⟩, ⟨k, rfl, hide (by rw [HMf.out, hMk.out])⟩, _, rfl, HR3⟩
          · have hz : (((n : Int) + 1) == (p.size : Int)) = false := by simp; omega
            have HR2 : Hid (FdAt p.data.toList s.data.toList W1 v (i + 1) wr) := hide (HR.out.on hA (by rw [HRf.out, hRn, hAl]; omega))
            have HP2 : Hid (n + 1 = pos p.data.toList s.data.toList (i + 1)) := hide (by rw [pos_on hA (by rw [HRf.out, hRn, hAl]; omega), HRf.out, hRn])
            clear HR
            replace hRn := hide hRn
            go_wp2
            go_roundg (go - 1)
            case measure => omega
            case rel => exact ⟨i + 1, by omega, by go_num, ⟨n + 1, by go_num, HP2⟩, ⟨k, rfl, hide (by rw [HMf.out, hMk.out])⟩, _, rfl, HR2⟩
        · have q2 := u8_ne2 he
          have hne : ¬ p.data.toList.getD n 0 = s[i] := by rw [gd_at p n hnp]; exact fun e => he e.symm
          by_cases hn0 : n = 0
          · have hRn : R = 0 := by rw [← HF.out, hn0, kfl_no (by rw [← hn0]; exact hne)]
            have hMk : M = k := by have := HL.out; rw [hn0, kfs_no (by rw [← hn0]; exact hne)] at this; omega
            replace hMk := hide hMk
            replace hRn := hide hRn
            have HR2 : Hid (FdAt p.data.toList s.data.toList W1 v (i + 1) wr) := hide (HR.out.on hA (by rw [HRf.out, hRn.out]; omega))
            have HP2 : Hid (0 = pos p.data.toList s.data.toList (i + 1)) := hide (by rw [pos_on hA (by rw [HRf.out, hRn.out]; omega), HRf.out, hRn.out])
            clear he hne HF HL HR
            subst hn0
            go_wp2
            go_roundg (go - 1)
            case measure => omega
            case rel => exact ⟨i + 1, by omega, by go_num, ⟨0, rfl, HP2⟩, ⟨k, rfl, hide (by rw [HMf.out, hMk.out])⟩, _, rfl, HR2⟩
          · have hn1 : 0 < n := by omega
            have c1 := (HW.out.1.later HR.out.below).c (j := n - 1) (by omega)
            rw [bF_lt (by omega), show n - 1 + 1 = n by omega] at c1
            have hbl := brd_lt p.data.toList (k := n) (by omega)
            have ew : IntKind.i64.wrap ((n : Int) - 1) = ((n - 1 : Nat) : Int) := by rw [IntKind.wrap_i64]; omega
            have HF2 : Hid (kfl p.data.toList s[i] (brd p.data.toList n) = R) := hide (by rw [← HF.out, kfl_back hne (by omega)])
            have HL2 : Hid (k + 1 + kfs p.data.toList s[i] (brd p.data.toList n) = M + 1) := hide (by rw [← HL.out, kfs_back hne (by omega)]; omega)
            have hz : ((n : Int) == 0) = false := by simp; omega
            obtain ⟨m, hm⟩ : ∃ m, brd p.data.toList n = m := ⟨_, rfl⟩
            rw [hm] at c1 hbl HF2 HL2
            clear he hne HF HL hm
            go_wp2
            go_roundg m
            case measure => omega
            case rel => exact ⟨k + 1, rfl, by go_num, by omega, HF2, HL2, HR⟩
    · obtain rfl : i = s.size := by omega
      have HB := hide HW.out.2
      have HO : Hid (FdPost p s w (.returned (.tuple #[v, .int .i64 (k : Int)])) wr) := hide ⟨v, by rw [HK.out], own_mono HR.out.own HB.out.size, HB.out.trans (HR.out.below.mono HB.out.size)⟩
      clear HR
      go_wp2
      try rw [Exit.noGoto_ret]
      go_ret2
      exact HO.out
end Go.Proofs.YtfiefklhhchebabDoor

set_option linter.unusedVariables false
namespace Go.Proofs.YtfiefklhhchebabDoor
open Go.RowKit
open Doc1

/-- p may be sought in s. -/
def said (p s : ByteArray) : Bool := sgt p && good s.data.toList
theorem said_yes {p s : ByteArray} (h : said p s = true) : sgt p = true ∧ 0 < p.size ∧ p.size ≤ 300 ∧ s.size ≤ 300 ∧ good p.data.toList = true ∧ good s.data.toList = true := by
  unfold said at h
  rw [Bool.and_eq_true] at h
  have := sgt_yes h.1
  exact ⟨h.1, this.1, this.2.1, good_le' h.2, this.2.2, h.2⟩

set_option maxHeartbeats 1000000 in
theorem l11Said_any (p s : ByteArray) (w : World) (hp : p.size ≤ 1048576) (hs : s.size ≤ 1048576) :
    Calls Tryd.prog 18 #[.string p, .string s] w fun e w' => e = .returned (.bool (said p s)) ∧ w' = w := by
  have H := l9Texts_any p s w hp hs
  have hx : said p s = (decide (0 < p.size) && (good p.data.toList && good s.data.toList)) := by unfold said sgt; rw [Bool.and_assoc]
  rw [hx]
  by_cases h0 : 0 < p.size
  · have he := emp_not h0
    rw [decide_eq_true h0, Bool.true_and]
    obtain ⟨x, hx⟩ : ∃ x, (good p.data.toList && good s.data.toList) = x := ⟨_, rfl⟩
    rw [hx] at H ⊢
    replace H := hide H
    clear hx
    go_enter Tryd.func18, Tryd.ntmps18
    go_wp2_with fail
    refine H.out.mono ?_
    rintro e w' ⟨rfl, hw⟩
    replace hw := hw.symm
    subst hw
    go_wp2
    go_ret
    exact ⟨rfl, rfl⟩
  · have he := emp_yes (s := p) (by omega)
    rw [decide_eq_false h0, Bool.false_and]
    clear H
    go_enter Tryd.func18, Tryd.ntmps18
    go_wp2
    go_ret
    exact ⟨rfl, rfl⟩

def fndO (p s : ByteArray) : List Int := if said p s then fI p.data.toList s.data.toList s.size else []
def stpO (p s : ByteArray) : Int := if said p s then (lks p.data.toList s.data.toList s.size : Int) else 0
theorem fndO_len (p s : ByteArray) : (fndO p s).length ≤ 300 := by
  unfold fndO
  split
  · rename_i h; have := fI_len p.data.toList s.data.toList s.size; have := (said_yes h).2.2.2.1; omega
  · simp
def FaPost (p s : ByteArray) (w : World) (e : Ending) (w' : World) : Prop := ∃ v, e = .returned (.tuple #[v, .bool (said p s)]) ∧ IOwn w' w.heap.size v (fndO p s) ∧ Below w.heap.size w w'
def SoPost (p s : ByteArray) (w : World) (e : Ending) (w' : World) : Prop := e = .returned (.tuple #[.int .i64 (stpO p s), .bool (said p s)]) ∧ Below w.heap.size w w'
theorem fa_of {p s : ByteArray} {w w0 w' : World} {v : Value} (h : said p s = true) (ho : IOwn w' w0.heap.size v (fI p.data.toList s.data.toList s.size)) (hb0 : Below w.heap.size w w0) (hb : Below w0.heap.size w0 w') : FaPost p s w (.returned (.tuple #[v, .bool true])) w' :=
  ⟨v, by rw [h], by unfold fndO; rw [if_pos h]; exact own_mono ho hb0.size, hb0.trans (hb.mono hb0.size)⟩
theorem fa_no {p s : ByteArray} (w : World) (h : said p s = false) : FaPost p s w (.returned (.tuple #[.slice none 0 0, .bool false])) w :=
  ⟨_, by rw [h], by unfold fndO; rw [h, if_neg (by simp)]; exact World.ownsRow_nil _ _ _ _, Below.refl _ _⟩
theorem so_of {p s : ByteArray} {w w0 w' : World} (h : said p s = true) (hb0 : Below w.heap.size w w0) (hb : Below w0.heap.size w0 w') : SoPost p s w (.returned (.tuple #[.int .i64 (lks p.data.toList s.data.toList s.size : Int), .bool true])) w' :=
  ⟨by unfold stpO; rw [h, if_pos rfl], hb0.trans (hb.mono hb0.size)⟩
theorem so_no {p s : ByteArray} (w : World) (h : said p s = false) : SoPost p s w (.returned (.tuple #[.int .i64 0, .bool false])) w :=
  ⟨by unfold stpO; rw [h, if_neg (by simp)], Below.refl _ _⟩

/-- Both texts as rows of bytes, and the search over them. -/
theorem two_conv (p s : ByteArray) (w : World) : ∃ W cap W2 cap2, (convert 9 45 (.string p)).run Tryd.prog w = .ok (.slice (some ⟨w.heap.size, 0, none⟩) p.size cap) W ∧ (convert 9 45 (.string s)).run Tryd.prog W = .ok (.slice (some ⟨w.heap.size + 1, 0, none⟩) s.size cap2) W2 ∧ BtAt W2 w.heap.size p ∧ BtAt W2 (w.heap.size + 1) s ∧ p.size ≤ cap ∧ s.size ≤ cap2 ∧ Below w.heap.size w W2 := by
  obtain ⟨W, cap, h1, h2, h3, h4, h5⟩ := bytes_conv p w
  obtain ⟨W2, cap2, g1, g2, g3, g4, g5⟩ := bytes_conv s W
  rw [h5] at g1 g2
  exact ⟨W, cap, W2, cap2, h1, g1, h2.later g4, g2, h3, g3, h4.trans (g4.mono h4.size)⟩

end Go.Proofs.YtfiefklhhchebabDoor
