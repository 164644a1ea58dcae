/- Pieces that are joined evenly make a balanced rope. The law FnBalanced: a rope that is joined evenly has the same pieces and is balanced. -/
import Derived.Test.YtfklbhejfbfmeabDoorRopB
import Derived.Test.YtfklbhejfbfmeabDoorRptA
import Derived.Test.YtfklbhejfbfmeabDoorDroM
import Derived.Test.YtfklbhejfbfmeabDoorRpt9
import Derived.BigQuiet
set_option linter.unusedVariables false
namespace Go.Proofs.YtfklbhejfbfmeabDoor
open Go.RowKit
open Doc1

theorem fb_pow : ∀ n, fb (n + 1) ≤ 2 ^ n + 1 ∧ fb (n + 2) ≤ 2 ^ (n + 1) + 1
  | 0 => by decide
  | n + 1 => by
    have ih := fb_pow n
    refine ⟨ih.2, ?_⟩
    have e : fb (n + 1 + 2) = fb (n + 1) + fb (n + 2) := rfl
    have p1 : 2 ^ (n + 1) = 2 * 2 ^ n := by rw [Nat.pow_succ]; omega
    have p2 : 2 ^ (n + 1 + 1) = 2 * 2 ^ (n + 1) := by rw [Nat.pow_succ]; omega
    have p3 : 0 < 2 ^ n := Nat.pow_pos (by omega)
    omega
theorem fb_le {d n : Nat} (h : 2 ^ d < 2 * n) : fb d ≤ n := by
  cases d with
  | zero => simp only [fb]; omega
  | succ d =>
    have h1 := (fb_pow d).1
    have p1 : 2 ^ (d + 1) = 2 * 2 ^ d := by rw [Nat.pow_succ]; omega
    omega
/-- Every bough of a tree is as long as it is deep. -/
def LgT : Lm → Prop
  | .pc s => 1 ≤ s.size
  | .jn a b => LgT a ∧ LgT b ∧ fb (max a.dp b.dp + 1) ≤ a.sz + b.sz
theorem lg_all (t : Lm) (h : LgT t) : ∀ o, (t.pd o).all lngB = true := by
  induction t with
  | pc s =>
    intro o
    have h : 1 ≤ s.size := h
    simp [Lm.pd, lngB, lng, fb]
    omega
  | jn a b iha ihb =>
    intro o
    obtain ⟨h1, h2, h3⟩ := h
    simp only [Lm.pd, List.all_append, iha h1, ihb h2, Bool.true_and, List.all_cons, List.all_nil, Bool.and_true]
    unfold lngB lng
    simp only [Int.toNat_natCast]
    exact decide_eq_true h3
theorem pcs_sz {l : List ByteArray} (h : ∀ x ∈ l, gpc x = true) : l.length ≤ tot l := by
  induction l with
  | nil => simp
  | cons s l ih =>
    have h1 := (gpc_bd (h s (List.mem_cons_self))).1
    have h2 := ih (fun x hx => h x (List.mem_cons_of_mem _ hx))
    simp only [List.length_cons, tot, List.map_cons, List.sum_cons] at h2 ⊢
    omega
/-- How deep pieces are that are joined evenly, and that each is long enough. -/
theorem evn_lg : ∀ (n : Nat) (l : List ByteArray), l.length = n → 0 < n → (∀ x ∈ l, gpc x = true) → ∃ t, evn l = some t ∧ 2 ^ t.dp < 2 * n ∧ (n = 1 → t.dp = 0) ∧ LgT t := by
  intro n
  induction n using Nat.strongRecOn with
  | ind n ih =>
    intro l hl hn hg
    rw [evn]
    by_cases h1 : n = 1
    · subst h1
      obtain ⟨s, rfl⟩ := List.length_eq_one_iff.1 hl
      refine ⟨.pc s, by simp, by simp [Lm.dp], fun _ => rfl, ?_⟩
      exact (gpc_bd (hg s (by simp))).1
    · rw [dif_neg (by omega), dif_neg (by omega)]
      have la : (l.take ((l.length + 1) / 2)).length = (n + 1) / 2 := by rw [List.length_take]; omega
      have lb : (l.drop ((l.length + 1) / 2)).length = n / 2 := by rw [List.length_drop]; omega
      obtain ⟨ta, ea, da, za, ga⟩ := ih ((n + 1) / 2) (by omega) _ la (by omega) (fun x hx => hg x (List.mem_of_mem_take hx))
      obtain ⟨tb, eb, db, zb, gb⟩ := ih (n / 2) (by omega) _ lb (by omega) (fun x hx => hg x (List.mem_of_mem_drop hx))
      have sa : ta.sz = tot (l.take ((l.length + 1) / 2)) := by
        have := szO_evn (l.take ((l.length + 1) / 2))
        rw [ea] at this
        exact this
      have sb : tb.sz = tot (l.drop ((l.length + 1) / 2)) := by
        have := szO_evn (l.drop ((l.length + 1) / 2))
        rw [eb] at this
        exact this
      have hsz : ta.sz + tb.sz = tot l := by rw [sa, sb, tot_take_drop]
      have hfew := pcs_sz hg
      have key : ∀ (d a : Nat), 2 ^ d < 2 * a → (a = 1 → d = 0) → 0 < a → 2 * a ≤ n + 1 → 2 ≤ n → 2 ^ (d + 1) < 2 * n := by
        intro d a h1 h2 h3 h4 h5
        rw [Nat.pow_succ]
        cases d with
        | zero => simp; omega
        | succ d =>
          rw [Nat.pow_succ] at h1 ⊢
          have : a ≠ 1 := fun c => by have := h2 c; omega
          omega
      have hd : 2 ^ (max ta.dp tb.dp + 1) < 2 * n := by
        by_cases c : tb.dp ≤ ta.dp
        · rw [Nat.max_eq_left c]
          exact key _ ((n + 1) / 2) da za (by omega) (by omega) (by omega)
        · rw [Nat.max_eq_right (by omega)]
          exact key _ (n / 2) db zb (by omega) (by omega) (by omega)
      refine ⟨.jn ta tb, by rw [ea, eb]; rfl, hd, fun c => absurd c h1, ga, gb, ?_⟩
      have := fb_le hd
      omega
/-- Pieces joined evenly are balanced. -/
theorem evn_bal {l : List ByteArray} (h : ∀ x ∈ l, gpc x = true) : (bo (evn l)).all lngB = true := by
  rcases Nat.eq_zero_or_pos l.length with h0 | h0
  · obtain rfl := List.eq_nil_of_length_eq_zero h0
    rw [evn]
    simp [bo]
  · obtain ⟨t, e, -, -, hg⟩ := evn_lg l.length l rfl h0 h
    rw [e]
    exact lg_all t hg 0
end Go.Proofs.YtfklbhejfbfmeabDoor

set_option linter.unusedVariables false
namespace Go.Proofs.YtfklbhejfbfmeabDoor
open Go.RowKit
open Doc1

set_option maxRecDepth 100000 in
set_option maxHeartbeats 2000000 in
theorem sameTexts_tx {w : World} {A B : Nat} {u v : Value} (l : List ByteArray) (ha : TxOwn w A u l) (hb : TxOwn w B v l) (hl : l.length ≤ 100000) :
    Calls Tryd.prog 31 #[u, v] w fun e w' => e = .returned (.bool true) ∧ Below w.heap.size w w' := by
  obtain ⟨a, ca, rfl, a1, a2, a3⟩ := ha.at'
  obtain ⟨b, cb, rfl, b1, b2, b3⟩ := hb.at'
  have HA := hide a3
  have HB := hide b3
  clear ha hb a3 b3
  have hne : ((l.length : Int) != (l.length : Int)) = false := by simp
  go_enter Tryd.func31, Tryd.ntmps31
  go_wp2
  go_loopw [13] (fun i wr => ∃ k : Nat, k ≤ l.length ∧ i = .int .i64 k ∧ Hid (Below w.heap.size w wr)) (fun i _ => l.length - (intOf i).toNat)
  case atStart => exact ⟨0, Nat.zero_le _, rfl, hide (Below.refl _ _)⟩
  case round =>
    obtain ⟨k, hk, rfl, HW⟩ := hrel
    by_cases hlt : k < l.length
    · obtain ⟨ga, rfl, hga, hca⟩ := HA.out k hlt
      obtain ⟨gb, rfl, hgb, hcb⟩ := HB.out k hlt
      have c1 := (World.cell?_of_block (a := ⟨ga, k, none⟩) (HW.out.block ga hga)).trans hca
      have c2 := (World.cell?_of_block (a := ⟨gb, k, none⟩) (HW.out.block gb hgb)).trans hcb
      clear hca hcb
      go_wp2
      go_quiet (fail)
      go_wp2
      go_roundw
      case rel => exact ⟨k + 1, by omega, by go_num, hide (HW.out.trans ⟨rfl, rfl, rfl, Nat.le_refl _, fun _ _ => rfl⟩)⟩
      case measure => simp [intOf]; omega
    · go_wp2
      go_ret
      exact ⟨rfl, HW.out⟩

/-- What the drawings of a rope tell. -/
def DrPost (w : World) (e : Ending) (w' : World) : Prop := ∃ v l, e = .returned (.agg #[v]) ∧ BoOwn w' w.heap.size v l ∧ (l.length ≤ 200 ∧ ∀ i (hi : i < l.length), l[i].text.size ≤ 300) ∧ Below w.heap.size w w'

set_option maxRecDepth 100000 in
set_option maxHeartbeats 2000000 in
theorem drawGoodRope_any (C : Value) (w : World) (hco : CodeAt w.heap.size C w) (hC : codeLen C ≤ 1048576) :
    Calls Tryd.prog 75 #[C] w (DrPost w) := by
  obtain ⟨w1, hw1⟩ : ∃ w1, w1 = w.alloc (.cells #[.slice none 0 0] 26) := ⟨_, rfl⟩
  have hb1 : Below w.heap.size w w1 := by rw [hw1]; exact (Below.refl _ _).alloc (Nat.le_refl _) _
  have r1 : CellR w1 w.heap.size (.slice none 0 0) := by rw [hw1]; exact CellR.new _ _
  have hco1 := code_on hco hb1
  have hcur := cur_new w1 C
  have RA := hide (rope_any _ C 0 _ hcur (hco1.grown (World.grownBy_alloc w1 (.cells #[C, .int .i64 0, .int .u64 0] 75) (some w1.heap.size))) hC (by omega))
  obtain ⟨a, len, cap, rfl⟩ := hco.shape
  have HB := hide hb1
  have HR := hide r1
  have hs1 : w1.heap.size = w.heap.size + 1 := by rw [hw1]; simp
  rw [hs1] at RA
  clear hco hb1 r1 hco1 hcur
  go_enter Tryd.func75, Tryd.ntmps75
  go_wp2_with fail
  rw [← hw1]
  clear hw1
  refine RA.out.mono ?_
  rintro e w2 ⟨v, l, rfl, ho, hbd, -, hg2⟩
  rw [← hs1] at hg2
  have hb2 := below_of_grown hg2
  have r2 := HR.out.later hb2
  have c2 := r2.cell
  have f2 := r2.fz
  have HP := hide (r2.put v)
  have HO := hide (own_setD (k := 0) (u := v) (own_mono ho (show w.heap.size ≤ _ by simp; omega)) (own_box ho r2))
  have HB2 := hide ((HB.out.trans (hb2.mono HB.out.size)).setCell (p := ⟨w.heap.size, 0, none⟩) (Nat.le_refl _) v)
  have HBD := hide hbd
  clear hg2 hb2 r2 ho hbd RA
  obtain ⟨av, cv, rfl, -⟩ := HO.out.inn
  go_wp2
  refine bodyPost_ret (results_cell_row rfl _ _ w.heap.size _ _ (0, 0) _ rfl HP.out Tryd.underlying26 rfl Tryd.sizeRope) rfl ?_
  exact ⟨_, l, rfl, HO.out, HBD.out, HB2.out⟩

set_option maxRecDepth 100000 in
set_option maxHeartbeats 2000000 in
theorem drawRebalance_any (C : Value) (w : World) (hco : CodeAt w.heap.size C w) (hC : codeLen C ≤ 1048576) :
    Calls Tryd.prog 25 #[C] w (DrPost w) := by
  obtain ⟨w1, hw1⟩ : ∃ w1, w1 = w.alloc (.cells #[.slice none 0 0] 26) := ⟨_, rfl⟩
  have hb1 : Below w.heap.size w w1 := by rw [hw1]; exact (Below.refl _ _).alloc (Nat.le_refl _) _
  have r1 : CellR w1 w.heap.size (.slice none 0 0) := by rw [hw1]; exact CellR.new _ _
  have DA := hide (drawGoodRope_any C w1 (code_on hco hb1) hC)
  obtain ⟨a, len, cap, rfl⟩ := hco.shape
  have HB := hide hb1
  have HR := hide r1
  clear hco hb1 r1
  go_enter Tryd.func25, Tryd.ntmps25
  go_wp2_with fail
  rw [← hw1]
  clear hw1
  refine DA.out.mono ?_
  rintro e w2 ⟨v, l, rfl, ho, hbd, hb2⟩
  have r2 := HR.out.later hb2
  have c2 := r2.cell
  have f2 := r2.fz
  have HP := hide (r2.put v)
  have HO := hide (own_setD (k := 0) (u := v) (own_mono ho HB.out.size) (own_box ho r2))
  have HB2 := hide ((HB.out.trans (hb2.mono HB.out.size)).setCell (p := ⟨w.heap.size, 0, none⟩) (Nat.le_refl _) v)
  have HBD := hide hbd
  clear hb2 r2 ho hbd DA
  obtain ⟨av, cv, rfl, -⟩ := HO.out.inn
  go_wp2
  refine bodyPost_ret (results_cell_row rfl _ _ w.heap.size _ _ (0, 0) _ rfl HP.out Tryd.underlying26 rfl Tryd.sizeRope) rfl ?_
  exact ⟨_, l, rfl, HO.out, HBD.out, HB2.out⟩

/-- What is joined evenly: its tree, its pieces; it is balanced. -/
theorem rb_yes {l : List Bg} (h : rbB l = true) : rtB l = true ∧ RG (rbL l) ∧ rtB (rbL l) = true ∧ pcO (rtO (rbL l)) = pcO (rtO l) ∧ blB (rbL l) = true ∧ (pcO (rtO l)).length ≤ 200 := by
  unfold rbB at h
  rw [Bool.and_eq_true] at h
  obtain ⟨h1, h2⟩ := h
  obtain ⟨-, hgd, hn, hz⟩ := RO_bo (rtO_ro h1)
  have hL : rbL l = bo (evn (pcO (rtO l))) := by
    unfold rbL okB
    rw [if_pos h1, if_pos h2]
  have hpc := evn_pc _ (pcO (rtO l)) rfl
  have hgd2 : gdO (evn (pcO (rtO l))) := by unfold gdO; rw [hpc]; exact hgd
  have hrt : rtB (rbL l) = true := by rw [hL, rtB_bo hgd2]; exact h2
  have hf := h2
  unfold fit at hf
  simp only [Bool.and_eq_true, decide_eq_true_eq] at hf
  refine ⟨h1, by rw [hL]; exact ⟨_, rfl, hf.1, hf.2⟩, hrt, ?_, ?_, ?_⟩
  · rw [hL, rtO_of (bo_RO hgd2 hf.1 hf.2), hpc]
  · unfold blB
    rw [hrt, hL, evn_bal hgd]
    rfl
  · have := pcO_len (rtO l); omega
theorem rb_no {l : List Bg} (h : rbB l = false) : rbL l = [] := by
  unfold rbB at h
  unfold rbL okB
  cases h1 : rtB l with
  | false => rfl
  | true =>
    rw [h1, Bool.true_and] at h
    rw [h]
    rfl
theorem rg_rb (l : List Bg) : RG (rbL l) := by unfold rbL; split; exact rg_ok _; exact rg_nil

set_option maxRecDepth 100000 in
set_option maxHeartbeats 8000000 in
theorem law_balanced (C : Value) (w : World) (hco : CodeAt w.heap.size C w) (hT : Tab w) :
    Calls Tryd.prog 5 #[C] w fun e w' => e = .returned (.bool true) ∧ Below w.heap.size w w' := by
  obtain ⟨a, len, cap, rfl⟩ := hco.shape
  by_cases hl : (len : Int) ≤ 1048576
  · have H0 := hide (drawRebalance_any (.slice a len cap) w hco (by show len ≤ 1048576; omega))
    have HT := hide hT
    clear hco hT
    go_enter Tryd.func5, Tryd.ntmps5
    go_wp2_with fail
    refine H0.out.mono ?_
    rintro e w1 ⟨v, l, rfl, ho, hbd, hb1⟩
    obtain ⟨av, cv, rfl, hin⟩ := ho.inn
    have rin : RIn w1 av cv l := ⟨hin, by have := hbd.1; omega, fun i hi => by have := hbd.2 i hi; omega⟩
    obtain ⟨w2, hw2⟩ : ∃ w2, w2 = w1.alloc (.cells #[.slice av l.length cv] 26) := ⟨_, rfl⟩
    have hb2 : Below w1.heap.size w1 w2 := by rw [hw2]; exact (Below.refl _ _).alloc (Nat.le_refl _) _
    have r2 : CellR w2 w1.heap.size (.slice av l.length cv) := by rw [hw2]; exact CellR.new _ _
    have B2 := hide (hb1.trans (hb2.mono hb1.size))
    have I2 := hide (rin.later hb2)
    have R2 := hide r2
    have C1 := hide (rebalanceI I2.out (HT.out.below B2.out))
    clear H0 ho hin hbd hb1 rin hb2 r2
    go_wp2_with fail
    rw [← hw2]
    clear hw2
    refine C1.out.mono ?_
    rintro e w3 ⟨x, rfl, hx, hb3⟩
    obtain ⟨ax, cx, rfl, -⟩ := hx.inn
    obtain ⟨w4, hw4⟩ : ∃ w4, w4 = w3.alloc (.cells #[.slice ax (rbL l).length cx] 26) := ⟨_, rfl⟩
    have hb4 : Below w2.heap.size w2 w4 := by rw [hw4]; exact hb3.alloc hb3.size _
    have x4 : CellR w4 w3.heap.size (.slice ax (rbL l).length cx) := by rw [hw4]; exact CellR.new _ _
    have o4 : BoOwn w4 w2.heap.size (.slice ax (rbL l).length cx) (rbL l) := by rw [hw4]; exact World.ownsRow.alloc hx _
    obtain ⟨ax', cx', ex, xin⟩ := rg_rin o4 (rg_rb l)
    cases ex
    have B4 := hide (B2.out.trans (hb4.mono B2.out.size))
    have I4 := hide (I2.out.later hb4)
    have R4 := hide (R2.out.later hb4)
    have X4 := hide x4
    have XI := hide xin
    have C2 := hide (rebalanceS I4.out)
    have k4 := R4.out.cell
    rw [hw4] at k4
    clear hx hb3 hb4 x4 o4 xin C1 I2 R2 B2
    go_wp2_with fail
    rw [← hw4]
    clear hw4 k4
    refine C2.out.mono ?_
    rintro e w5 ⟨z, rfl, hz, hb5⟩
    obtain ⟨az, cz, rfl, -⟩ := hz.inn
    obtain ⟨w6, hw6⟩ : ∃ w6, w6 = w5.alloc (.cells #[.slice az (rbL l).length cz] 26) := ⟨_, rfl⟩
    have hb6 : Below w4.heap.size w4 w6 := by rw [hw6]; exact hb5.alloc hb5.size _
    have B6 := hide (B4.out.trans (hb6.mono B4.out.size))
    have I6 := hide (I4.out.later hb6)
    have R6 := hide (R4.out.later hb6)
    have X6 := hide (X4.out.later hb6)
    have XI6 := hide (XI.out.later hb6)
    have C3 := hide (isBalancedI I6.out (HT.out.below B6.out))
    have k6 := R6.out.cell
    rw [hw6] at k6
    clear hz hb5 hb6 C2 I4 R4 X4 XI B4
    go_wp2_with fail
    rw [← hw6]
    clear hw6 k6
    refine C3.out.mono ?_
    rintro e w7 ⟨rfl, hb7⟩
    have B7 := hide (B6.out.trans (hb7.mono B6.out.size))
    have I7 := hide (I6.out.later hb7)
    have R7 := hide (R6.out.later hb7)
    have X7 := hide (X6.out.later hb7)
    have XI7 := hide (XI6.out.later hb7)
    have C4 := hide (isBalancedS I7.out)
    have k7 := R7.out.cell
    clear hb7 C3 I6 R6 X6 XI6 B6
    go_wp2_with fail
    refine C4.out.mono ?_
    rintro e w8 ⟨rfl, hb8⟩
    have B8 := hide (B7.out.trans (hb8.mono B7.out.size))
    have I8 := hide (I7.out.later hb8)
    have R8 := hide (R7.out.later hb8)
    have X8 := hide (X7.out.later hb8)
    have XI8 := hide (XI7.out.later hb8)
    have k8 := R8.out.cell
    have j8 := X8.out.cell
    have e1 : (rbB l != rbB l) = false := by simp
    have e2 : (rtB l != rtB l) = false := by simp
    have e3 : (blB l != blB l) = false := by simp
    clear hb8 C4 I7 R7 X7 XI7 B7 k7
    cases hrb : rbB l with
    | false =>
      have hno := rb_no hrb
      rw [hno] at j8 ⊢
      rw [hrb] at e1
      clear hrb hno
      go_wp2
      go_ret
      exact ⟨rfl, B8.out⟩
    | true =>
      obtain ⟨q1, q2, q3, q4, q5, q6⟩ := rb_yes hrb
      have C5 := hide (piecesOfI I8.out (HT.out.below B8.out))
      rw [hrb] at e1
      rw [q1] at C5
      have Q := hide (And.intro q3 (And.intro q4 (And.intro q5 q6)))
      clear hrb q2 q3 q4 q5 q6
      go_wp2_with fail
      refine C5.out.mono ?_
      rintro e w9 ⟨p, rfl, hp, hb9⟩
      have B9 := hide (B8.out.trans (hb9.mono B8.out.size))
      have X9 := hide (X8.out.later hb9)
      have XI9 := hide (XI8.out.later hb9)
      have C6 := hide (piecesOfI XI9.out (HT.out.below B9.out))
      rw [Q.out.1, Q.out.2.1] at C6
      have P9 := hide hp
      have j9 := X9.out.cell
      clear hp hb9 C5 k8 j8 I8 R8 X8 XI8 B8
      go_wp2_with fail
      refine C6.out.mono ?_
      rintro e wa ⟨q, rfl, hq, hba⟩
      have Ba := hide (B9.out.trans (hba.mono B9.out.size))
      have Xa := hide (X9.out.later hba)
      have XIa := hide (XI9.out.later hba)
      have Pa : Hid (TxOwn wa _ p (pcO (rtO l))) := hide (own_below P9.out hba)
      have Qa := hide hq
      have C7 := hide (isBalancedI XIa.out (HT.out.below Ba.out))
      rw [Q.out.1, Q.out.2.2.1] at C7
      have ja := Xa.out.cell
      clear hq hba C6 j9 X9 XI9 B9 P9
      go_wp2_with fail
      refine C7.out.mono ?_
      rintro e wb ⟨rfl, hbb⟩
      have Bb := hide (Ba.out.trans (hbb.mono Ba.out.size))
      have Xb := hide (Xa.out.later hbb)
      have XIb := hide (XIa.out.later hbb)
      have C8 := hide (sameTexts_tx (pcO (rtO l)) (own_below Pa.out hbb) (own_below Qa.out hbb) (by have := Q.out.2.2.2; omega))
      obtain ⟨ap, cp, rfl, -⟩ := Pa.out.at'
      obtain ⟨aq, cq, rfl, -⟩ := Qa.out.at'
      clear hbb C7 ja Xa XIa Ba Pa Qa
      go_wp2_with fail
      refine C8.out.mono ?_
      rintro e wc ⟨rfl, hbc⟩
      have Bc := hide (Bb.out.trans (hbc.mono Bb.out.size))
      have C9 := hide (goodRopeI (XIb.out.later hbc) (HT.out.below Bc.out))
      rw [Q.out.1] at C9
      have jc := (Xb.out.later hbc).cell
      clear hbc C8 Xb XIb Bb
      go_wp2_with fail
      refine C9.out.mono ?_
      rintro e wd ⟨rfl, hbd⟩
      have Bd := hide (Bc.out.trans (hbd.mono Bc.out.size))
      clear hbd C9 jc
      go_wp2
      go_ret
      exact ⟨rfl, Bd.out⟩
  · clear hco
    go_enter Tryd.func5, Tryd.ntmps5
    go_wp2
    go_ret
    exact ⟨rfl, Below.refl _ _⟩
end Go.Proofs.YtfklbhejfbfmeabDoor
