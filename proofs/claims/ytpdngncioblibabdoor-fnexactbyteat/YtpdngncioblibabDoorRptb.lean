/- The model's functions over ropes, on: ByteAt. -/
import Derived.Test.YtpdngncioblibabDoorRpt7
import Derived.BigQuiet
set_option linter.unusedVariables false
namespace Go.Proofs.YtpdngncioblibabDoor
open Go.RowKit
open Doc1

theorem one_byte (s : ByteArray) (n : Nat) (h : n < s.size) : s.extract n (n + 1) = ⟨#[s.data.toList.getD n 0]⟩ := by
  apply Doc1.ba_eq
  rw [ext_list]
  have hs := szB s
  rw [List.take_succ_eq_append_getElem (by omega), List.drop_left' (by rw [List.length_take]; omega), List.getD_eq_getElem?_getD, List.getElem?_eq_getElem (by omega)]
  rfl

set_option maxRecDepth 100000 in
set_option maxHeartbeats 4000000 in
theorem byteAtS {w : World} {a : Option Addr} {cap : Nat} {l : List Bg} (n : Int) (h : RIn w a cap l) :
    Calls Tryd.prog 10 #[.agg #[.slice a l.length cap], .int .i64 n] w fun e w' => e = .returned (.tuple #[.string (byS l n), .int .i64 (byN l n : Int), .bool (byOk l n)]) ∧ Below w.heap.size w w' := by
  obtain ⟨w1, hw1⟩ : ∃ w1, w1 = w.alloc (.cells #[.slice a l.length cap] 30) := ⟨_, rfl⟩
  have hb1 : Below w.heap.size w w1 := by rw [hw1]; exact (Below.refl _ _).alloc (Nat.le_refl _) _
  have hc1 : CellR w1 w.heap.size (.slice a l.length cap) := by rw [hw1]; exact CellR.new w _
  have G := hide (goodRopeS (h.later hb1))
  have HB1 := hide hb1
  have HC1 := hide hc1
  have hll := h.len
  have hcm := h.inn.mx
  have hcl := h.inn.le
  unfold maxLen at hcm
  have HN : Hid (byOk l n = false → byS l n = ⟨#[]⟩ ∧ byN l n = 0) := hide (fun c => by unfold byS byN; rw [c]; exact ⟨rfl, rfl⟩)
  have HD : Hid (byOk l n = (rtB l && (decide (0 ≤ n) && decide (n < (szO (rtO l) : Int))))) := hide rfl
  cases hr : rtB l with
  | false =>
    have ek : byOk l n = false := by rw [HD.out, hr]; rfl
    obtain ⟨e1, e2⟩ := HN.out ek
    rw [e1, e2, ek]
    rw [hr] at G
    clear hr h hb1 hc1 HN HD ek e1 e2
    go_enter Tryd.func10, Tryd.ntmps10
    go_wp2_with fail
    rw [← hw1]
    clear hw1
    refine G.out.mono ?_
    rintro e w2 ⟨rfl, hb2⟩
    have HB2 : Hid (Below w.heap.size w w2) := hide (HB1.out.trans (hb2.mono HB1.out.size))
    clear hb2
    go_wp2
    go_ret3
    exact ⟨rfl, HB2.out⟩
  | true =>
    rw [hr, Bool.true_and] at HD
    rw [hr] at G
    have hl2 := rt_len hr
    have hlz : lastZ l = (szO (rtO l) : Int) := by
      have e := rt_bo hr
      conv => lhs; rw [e]
      exact lastZ_bo _
    have ok := rt_ok l
    have SZ := hide (fun w' (hb : Below w.heap.size w w') => l12Size_any (h.inn.later hb) (by omega))
    rw [hlz] at SZ
    obtain ⟨z, hz⟩ : ∃ z, szO (rtO l) = z := ⟨_, rfl⟩
    rw [hz] at SZ HD ok
    have ez : IntKind.i64.wrap ((z : Int) - 1) = (z : Int) - 1 := by rw [IntKind.wrap_i64]; omega
    have LI := hide (fun w => l1In_any n 0 ((z : Int) - 1) w)
    by_cases hok : 0 ≤ n ∧ n < (z : Int)
    · obtain ⟨k0, rfl⟩ : ∃ k : Nat, n = (k : Int) := ⟨n.toNat, by omega⟩
      have ek : byOk l (k0 : Int) = true := by rw [HD.out, decide_eq_true hok.1, decide_eq_true hok.2]; rfl
      rw [decide_eq_true (show (0 : Int) ≤ (k0 : Int) ∧ (k0 : Int) ≤ (z : Int) - 1 by omega)] at LI
      obtain ⟨t, ht⟩ : ∃ t, rtO l = some t := by
        cases hh : rtO l with
        | none => rw [hh] at hz; simp only [szO] at hz; omega
        | some t => exact ⟨t, rfl⟩
      have hsg : SG l 0 l.length t := by
        have := rtO_ro hr
        rw [ht] at this
        exact SG.rp.2 ⟨this.1, this.2.1⟩
      have eS : byS l (k0 : Int) = ⟨#[(bat t k0).1]⟩ := by unfold byS; rw [ek, ht]; rfl
      have eN : byN l (k0 : Int) = (bat t k0).2 := by unfold byN; rw [ek, ht]; rfl
      rw [eS, eN, ek]
      have htz : t.sz = z := by rw [ht] at hz; exact hz
      have h0 : l ≠ [] := fun c => by rw [c] at hsg; have q1 := hsg.lt.1; have q2 := Lm.nb_pos t; have q3 : ([] : List Bg).length = 0 := rfl; omega
      have hp := List.length_pos_iff.2 h0
      obtain ⟨g, rfl, hg, hcs⟩ := h.inn.ad h0
      have HK := hide (fun w' (hb : Below w.heap.size w w') => hcs.later hb hg)
      have hk0 : k0 < t.sz := by omega
      obtain ⟨c9, hc9⟩ : ∃ c, (bat t k0).1 = c := ⟨_, rfl⟩
      obtain ⟨s9, hs9⟩ : ∃ s, (bat t k0).2 = s := ⟨_, rfl⟩
      have hs9b : s9 ≤ 201 := by
        have q1 := bat_dp t k0
        have q2 := Lm.dp_lt t
        have q3 := hsg.lt
        omega
      rw [hc9, hs9]
      have HT0 : Hid (SG l 0 (l.length - 1 + 1) t ∧ k0 < t.sz ∧ (bat t k0).1 = c9 ∧ (bat t k0).2 = s9) := hide ⟨by rw [show l.length - 1 + 1 = l.length by omega]; exact hsg, hk0, hc9, hs9⟩
      have ewl : IntKind.i64.wrap ((l.length : Int) - 1) = ((l.length - 1 : Nat) : Int) := by rw [IntKind.wrap_i64]; omega
      clear hr h hb1 hc1 HN HD ek eS eN hlz hz htz ok ht hsg hc9 hs9 hcs hk0
      go_enter Tryd.func10, Tryd.ntmps10
      go_wp2_with fail
      rw [← hw1]
      clear hw1
      refine G.out.mono ?_
      rintro e w2 ⟨rfl, hb2⟩
      have HB2 : Hid (Below w.heap.size w w2) := hide (HB1.out.trans (hb2.mono HB1.out.size))
      have HC2 := hide (HC1.out.later hb2)
      have cc := HC2.out.cell
      have S2 := hide (SZ.out w2 HB2.out)
      clear hb2
      go_wp2_with fail
      refine S2.out.mono ?_
      rintro e w3 ⟨rfl, hw⟩
      replace hw := hw.symm
      subst hw
      go_wp2_with fail
      refine (LI.out _).mono ?_
      rintro e w3 ⟨rfl, hw⟩
      replace hw := hw.symm
      subst hw
      go_wp2
      go_loopw [1, 7, 8] (fun va vk vs wr => ∃ (at' k s f : Nat) (u : Lm), va = .int .i64 (at' : Int) ∧ vk = .int .i64 (k : Int) ∧ vs = .int .i64 (s : Int) ∧ k < l.length ∧ 1 ≤ s ∧ s ≤ 201 ∧ Hid (SG l f (k + 1) u ∧ at' < u.sz ∧ (bat u at').1 = c9 ∧ (bat u at').2 + s = s9 + 1) ∧ Hid (Below w2.heap.size w2 wr)) (fun _ vk _ _ => (intOf vk).toNat)
      case atStart => exact ⟨k0, l.length - 1, 1, 0, t, rfl, rfl, rfl, by omega, by omega, by omega, hide ⟨HT0.out.1, HT0.out.2.1, HT0.out.2.2.1, by rw [HT0.out.2.2.2]⟩, hide (Below.refl _ _)⟩
      case round =>
        obtain ⟨at', k, s, f, u, rfl, rfl, rfl, hk, hs1, hs2, HU, HBr⟩ := hrel
        have hbw : Hid (Below w.heap.size w wr) := hide (HB2.out.trans (HBr.out.mono HB2.out.size))
        have cc2 := (HC2.out.later HBr.out).cell
        obtain ⟨b0, b1, b2, b3, b4⟩ := (HK.out wr hbw.out).bgat k hk
        have hsh := HU.out.1.shape (List.getElem?_eq_getElem hk)
        have HKB := hide (fun i (hi : i < l.length) => ((HK.out wr hbw.out).bgat i hi))
        obtain ⟨b, hb⟩ : ∃ b, l[k] = b := ⟨_, rfl⟩
        rw [hb] at b0 b1 b2 b3 b4 hsh
        rcases hsh with ⟨h1, h2, rfl, hfk, h4, h5, h6⟩ | ⟨h1, h2, h3, h4, m, x, y, rfl, h5, h6, h7, h8, h9, h10, h11⟩
        · have e0 : decide ((0 : Int) ≤ b.left) = false := by rw [decide_eq_false_iff_not]; omega
          have hat : at' < b.text.size := HU.out.2.1
          have HR : Hid (b.text.extract at' (at' + 1) = ⟨#[c9]⟩ ∧ s = s9) := hide ⟨by rw [one_byte _ _ hat]; have := HU.out.2.2.1; rw [← this]; rfl, by have := HU.out.2.2.2; simp only [bat] at this; omega⟩
          have htb : b.text.size ≤ 8 := (gpc_bd h4).2
          have ew2 : IntKind.i64.wrap ((at' : Int) + 1) = ((at' + 1 : Nat) : Int) := by rw [IntKind.wrap_i64]; omega
          have i1 : (at' : Int) ≤ ((at' + 1 : Nat) : Int) := by omega
          have i2 : ((at' + 1 : Nat) : Int) ≤ (b.text.size : Int) := by omega
          obtain ⟨a1, ha1⟩ : ∃ a1, at' + 1 = a1 := ⟨_, rfl⟩
          rw [ha1] at ew2 i1 i2 HR
          clear h1 h2 h4 h5 h6 hb hfk ha1
          go_wp2
          go_ret3
          exact ⟨by rw [← HR.out.1, ← HR.out.2] <;> rfl, hbw.out⟩
        · have e0 : decide ((0 : Int) ≤ b.left) = true := by rw [decide_eq_true_iff]; omega
          obtain ⟨i, hi⟩ : ∃ i, m = i + 1 := ⟨m - 1, by omega⟩
          subst hi
          have hbl : b.left = (i : Int) := by omega
          obtain ⟨j, hj⟩ : ∃ j, k = j + 1 := ⟨k - 1, by omega⟩
          have hbr : b.right = (j : Int) := by omega
          obtain ⟨r, hr, hrs, -⟩ := h5.root
          rw [Nat.add_sub_cancel, List.getElem?_eq_getElem (by omega)] at hr
          have q3 := (HKB.out i (by omega)).2.2.2.1
          rw [Option.some.inj hr, hrs] at q3
          have qx := h5.lt
          have qz := gd_sz qx.2.2
          have qs : x.sz ≤ 8 * 200 := by omega
          rw [hbl] at b0 e0
          rw [hbr] at b1
          have hil : i < l.length := by omega
          have hjl : j < l.length := by omega
          have HJ := hide (And.intro hj h9)
          have qb : ∀ (v : Lm) (p : Nat), 1 ≤ (bat v p).2 := by
            intro v p
            cases v with
            | pc s => exact Nat.le_refl _
            | jn a b => simp only [bat]; split <;> simp
          by_cases hc : at' < x.sz
          · have ec : decide ((at' : Int) < (x.sz : Int)) = true := by rw [decide_eq_true_iff]; omega
            have HN2 : Hid (SG l f (i + 1) x ∧ at' < x.sz ∧ (bat x at').1 = c9 ∧ (bat x at').2 + (s + 1) = s9 + 1) := hide (by
              have u1 := HU.out.2.2.1
              have u2 := HU.out.2.2.2
              simp only [bat] at u1 u2
              rw [if_neg (by omega)] at u1 u2
              exact ⟨h5, hc, u1, by simp only at u2; omega⟩)
            have hsl : s + 1 ≤ 201 := by
              have u := HN2.out.2.2.2
              have q := qb x at'
              omega
            clear h1 h2 h3 h4 h5 h6 h7 h8 h9 h10 h11 hr hrs qx qz hbl hbr hb b2 b3 b4 HKB hj qb
            go_wp2
            go_quiet (fail)
            have cc3 : (wr.drewN nq).cell? ⟨w.heap.size, 0, none⟩ = some (.slice (some ⟨g, 0, none⟩) l.length cap) := cc2
            have b03 : (wr.drewN nq).cell? ⟨g, k * 5, none⟩ = some (.int .i64 (i : Int)) := b0
            go_wp2
            exact ⟨⟨at', i, s + 1, f, x, rfl, rfl, by go_num, hil, by omega, hsl, HN2, hide (HBr.out.trans ((show Below wr.heap.size wr (wr.drewN nq) from ⟨rfl, rfl, rfl, Nat.le_refl _, fun _ _ => rfl⟩).mono HBr.out.size))⟩, by have := HJ.out; simp [intOf]; omega⟩
          · have ec : decide ((at' : Int) < (x.sz : Int)) = false := by rw [decide_eq_false_iff_not]; omega
            have hty : at' < x.sz + y.sz := HU.out.2.1
            have HN2 : Hid (SG l (i + 1) (j + 1) y ∧ at' - x.sz < y.sz ∧ (bat y (at' - x.sz)).1 = c9 ∧ (bat y (at' - x.sz)).2 + (s + 1) = s9 + 1) := hide (by
              have u1 := HU.out.2.2.1
              have u2 := HU.out.2.2.2
              simp only [bat] at u1 u2
              rw [if_pos (by omega)] at u1 u2
              exact ⟨hj ▸ h6, by omega, u1, by simp only at u2; omega⟩)
            have hsl : s + 1 ≤ 201 := by
              have u := HN2.out.2.2.2
              have q := qb y (at' - x.sz)
              omega
            have ewa : IntKind.i64.wrap ((at' : Int) - (x.sz : Int)) = ((at' - x.sz : Nat) : Int) := by
              have qy := h6.lt
              have qyz := gd_sz qy.2.2
              rw [IntKind.wrap_i64]; omega
            clear h1 h2 h3 h4 h5 h6 h7 h8 h9 h10 h11 hr hrs qx qz hbl hbr hb b2 b3 b4 HKB hj qb
            go_wp2
            go_quiet (fail)
            have cc3 : (wr.drewN nq).cell? ⟨w.heap.size, 0, none⟩ = some (.slice (some ⟨g, 0, none⟩) l.length cap) := cc2
            have b13 : (wr.drewN nq).cell? ⟨g, k * 5 + 1, none⟩ = some (.int .i64 (j : Int)) := b1
            go_wp2
            exact ⟨⟨at' - x.sz, j, s + 1, i + 1, y, rfl, rfl, by go_num, hjl, by omega, hsl, HN2, hide (HBr.out.trans ((show Below wr.heap.size wr (wr.drewN nq) from ⟨rfl, rfl, rfl, Nat.le_refl _, fun _ _ => rfl⟩).mono HBr.out.size))⟩, by have := HJ.out; simp [intOf]; omega⟩
    · have ek : byOk l n = false := by
        rw [HD.out]
        by_cases c : 0 ≤ n
        · rw [decide_eq_true c, decide_eq_false (fun d => hok ⟨c, d⟩)]; rfl
        · rw [decide_eq_false c]; rfl
      obtain ⟨e1, e2⟩ := HN.out ek
      rw [e1, e2, ek]
      rw [decide_eq_false (show ¬ ((0 : Int) ≤ n ∧ n ≤ (z : Int) - 1) by omega)] at LI
      clear hr h hb1 hc1 HN HD ek e1 e2 hok hlz hz ok
      go_enter Tryd.func10, Tryd.ntmps10
      go_wp2_with fail
      rw [← hw1]
      clear hw1
      refine G.out.mono ?_
      rintro e w2 ⟨rfl, hb2⟩
      have HB2 : Hid (Below w.heap.size w w2) := hide (HB1.out.trans (hb2.mono HB1.out.size))
      have HC2 := hide (HC1.out.later hb2)
      have cc := HC2.out.cell
      have S2 := hide (SZ.out w2 HB2.out)
      clear hb2
      go_wp2_with fail
      refine S2.out.mono ?_
      rintro e w3 ⟨rfl, hw⟩
      replace hw := hw.symm
      subst hw
      go_wp2_with fail
      refine (LI.out _).mono ?_
      rintro e w3 ⟨rfl, hw⟩
      replace hw := hw.symm
      subst hw
      go_wp2
      go_ret3
      exact ⟨rfl, HB2.out⟩
end Go.Proofs.YtpdngncioblibabDoor
