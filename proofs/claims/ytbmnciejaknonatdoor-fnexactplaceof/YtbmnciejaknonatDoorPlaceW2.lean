/- The contract of spec.PlaceOf. -/
import Derived.Test.YtbmnciejaknonatDoorPlaceW1
import Derived.Test.YtbmnciejaknonatDoorPathW3
import Derived.Test.YtbmnciejaknonatDoorPath3
namespace Go.Proofs.YtbmnciejaknonatDoor
open Go.RowKit
open Doc1

/-- What is left of a number behind so many parts. -/
def Left (x r : Int) (c : Nat) : Prop := (0 ≤ x → r = x - c ∧ 0 ≤ r) ∧ (x < 0 → r ≤ -1 ∨ 9223372036854775807 - (c : Int) ≤ r)
theorem left_start (x : Int) : Left x x 0 := ⟨fun h => ⟨by omega, h⟩, fun h => Or.inl (by omega)⟩
theorem left_step {x r : Int} {c : Nat} (h : Left x r c) (hr : r ≠ 0) : Left x (r - 1) (c + 1) := by
  unfold Left at *
  refine ⟨fun h0 => ?_, fun h0 => ?_⟩
  · have := h.1 h0; omega
  · have := h.2 h0; omega
theorem left_wrap {x : Int} {c : Nat} (h : Left x (-9223372036854775808) c) : Left x 9223372036854775807 (c + 1) := by
  unfold Left at *
  refine ⟨fun h0 => ?_, fun h0 => ?_⟩
  · have := h.1 h0; omega
  · omega
theorem left_zero {x : Int} {c : Nat} (h : Left x 0 c) (hc : c ≤ 1000) : x = c := by
  unfold Left at h
  by_cases h0 : 0 ≤ x
  · have := h.1 h0; omega
  · have := h.2 (by omega); omega
theorem left_le {x r : Int} {c : Nat} (h : Left x r c) : 0 ≤ x → (c : Int) ≤ x := fun h0 => by have := h.1 h0; omega

set_option maxRecDepth 100000 in
set_option maxHeartbeats 4000000 in
theorem placeS_yes (S : ByteArray) (p : List Int) (gp cp : Nat) (fo : Option Nat) (w : World) (hs : S.size ≤ 1048576) (hd : doc S.data.toList = true) (hf : Leads S p fo) (hp : IAt w gp p) (hgp : gp < w.heap.size) (hpl : p.length ≤ 2000000) (hcp : p.length ≤ cp ∧ cp ≤ maxLen) (hp0 : 0 < p.length)
    (hpr : ∀ j (h : j < p.length), -9223372036854775808 ≤ p[j] ∧ p[j] ≤ 9223372036854775807) :
    Calls Tryd.prog 21 #[.string S, .slice (some ⟨gp, 0, none⟩) p.length cp] w fun e w' => e = .returned (.tuple #[.int .i64 (fo.getD 0 : Nat), .bool fo.isSome]) ∧ Below w.heap.size w w' := by
  have hs3 := doc_sz S hd
  have G := goodDocS_any S w hs
  rw [hd] at G
  replace G := hide G
  have S0 := hide (sub_start S p fo hd hf.le)
  have Hd := hide hd
  have Hp := hide hp
  have Hf := hide hf
  have Hfo : Hid (∀ n, fo = some n → path S.data.toList n = p) := hide (fun n hn => (hf.is n (hf.le n hn)).2 hn)
  have Hr := hide hpr
  have hpz : ((p.length : Int) == 0) = false := by rw [beq_eq_false_iff_ne]; omega
  clear hd hp hf hpr
  go_enter Tryd.func21, Tryd.ntmps21
  go_wp2_with (go_at_call 32; refine G.out.mono ?_; rintro e w' ⟨rfl, hw⟩; replace hw := hw.symm; subst hw)
  clear G
  go_loop [6, 7, 32] (fun bv ev iv => ∃ j b e : Nat, bv = .int .i64 b ∧ ev = .int .i64 e ∧ iv = .int .i64 j ∧ j + 1 ≤ p.length ∧ b ≤ e ∧ e ≤ S.size ∧ Hid (Sub S p fo j b e)) (fun _ _ iv => p.length - (intOf iv).toNat)
  case atStart => exact ⟨0, 0, S.size, rfl, rfl, rfl, by omega, Nat.zero_le _, Nat.le_refl _, S0⟩
  case round =>
    obtain ⟨j, b, e, rfl, rfl, rfl, hj, hbe, heS, hS⟩ := hrel
    by_cases hlt : j + 1 < p.length
    · have c0 := Hp.out j (by omega)
      have hxr := Hr.out j (by omega)
      obtain ⟨x, hx⟩ : ∃ x, x = p[j] := ⟨_, rfl⟩
      rw [← hx] at c0 hxr
      have Hx := hide hx
      clear hx
      go_wp2
      go_loop [9, 10, 11] (fun nv fv iv => ∃ (r : Int) (i c : Nat), nv = .int .i64 r ∧ fv = .int .i64 (-1) ∧ iv = .int .i64 ((b + i : Nat) : Int) ∧ -9223372036854775808 ≤ r ∧ r ≤ 9223372036854775807 ∧ i ≤ e - b ∧ c ≤ i ∧ Hid (Left x r c) ∧ Hid (W (S.extract b e).data.toList i = ⟨[], c⟩)) (fun _ _ iv => e - (intOf iv).toNat)
      case atStart => exact ⟨x, 0, 0, rfl, rfl, rfl, hxr.1, hxr.2, Nat.zero_le _, Nat.le_refl _, left_start x, rfl⟩
      case round =>
        obtain ⟨r, i, c, rfl, rfl, rfl, hr1, hr2, hi, hci, hL, hW⟩ := hrel
        by_cases hie : i < e - b
        · obtain ⟨hg1, hg2, hg⟩ := get_sub S b e i heS hie
          have hbi : b + i < e := by omega
          have O := l1Open_any S[b + i] w
          rcases top_next hS.out.doc hg1 hW.out with ⟨hop, hW2⟩ | ⟨hop, K, hK, hW2⟩
          · rw [hg] at hop
            rw [hop] at O
            replace O := hide O
            have HW2 := hide hW2
            clear hop hW2 hg
            go_wp2_with (go_at_call 43; refine O.out.mono ?_; rintro e w' ⟨rfl, hw⟩; replace hw := hw.symm; subst hw)
            refine ⟨⟨r, i + 1, c, rfl, rfl, by go_num, hr1, hr2, by omega, by omega, hL, HW2⟩, by simp [intOf]; omega⟩
          · have hop' := hop
            rw [hg] at hop'
            rw [hop'] at O
            replace O := hide O
            have hKu := end_up heS hK
            have M := hide (l1Match_end S (b + i) (b + K) w (by omega) hKu hg2 hop')
            have hlo := hK.lo
            have hhi := hK.hi
            rw [ByteArray.size_extract] at hhi
            by_cases hr0 : r = 0
            · subst hr0
              have hxc := left_zero hL.out (by omega)
              have N := hide (sub_next hS.out hlt hK hop hW.out (by rw [← Hx.out, hxc]) Hfo.out)
              clear hop hop' hK hKu hW2 hg hxc
              go_wp2_with (first | (go_at_call 43; refine O.out.mono ?_; rintro e w' ⟨rfl, hw⟩; replace hw := hw.symm; subst hw) | (go_at_call 44; refine M.out.mono ?_; rintro e w' ⟨rfl, hw⟩; replace hw := hw.symm; subst hw))
              go_round
              case rel => exact ⟨j + 1, b + i + 1, b + K, by go_num, by go_num, by go_num, by omega, by omega, by omega, N⟩
              case measure => simp [intOf]; omega
            · have HW2 := hide hW2
              clear hop hop' hK hKu hW2 hg
              by_cases hrm : r = -9223372036854775808
              · subst hrm
                have HL2 := hide (left_wrap hL.out)
                go_wp2_with (first | (go_at_call 43; refine O.out.mono ?_; rintro e w' ⟨rfl, hw⟩; replace hw := hw.symm; subst hw) | (go_at_call 44; refine M.out.mono ?_; rintro e w' ⟨rfl, hw⟩; replace hw := hw.symm; subst hw))
                refine ⟨⟨9223372036854775807, K + 1, c + 1, by rw [show wrap64 (-9223372036854775809) = 9223372036854775807 by decide +kernel], rfl, by go_num, by omega, by omega, by omega, by omega, HL2, HW2⟩, by simp [intOf]; omega⟩
              · have HL2 := hide (left_step hL.out hr0)
                go_wp2_with (first | (go_at_call 43; refine O.out.mono ?_; rintro e w' ⟨rfl, hw⟩; replace hw := hw.symm; subst hw) | (go_at_call 44; refine M.out.mono ?_; rintro e w' ⟨rfl, hw⟩; replace hw := hw.symm; subst hw))
                refine ⟨⟨r - 1, K + 1, c + 1, rfl, rfl, by go_num, by omega, by omega, by omega, by omega, HL2, HW2⟩, by simp [intOf]; omega⟩
        · obtain rfl : i = e - b := by omega
          have hno : fo = none := sub_none hS.out hlt hW.out (by rw [← Hx.out]; exact left_le hL.out) Hfo.out
          have Hno := hide hno
          clear hno
          go_wp2
          go_ret2
          rw [Hno.out]
          exact ⟨rfl, Below.refl _ _⟩
    · obtain ⟨l, hl⟩ : ∃ l, l = p[j]'(by omega) := ⟨_, rfl⟩
      have hj2 : j = p.length - 1 := by omega
      have c0 := Hp.out j (by omega)
      have hxr := Hr.out j (by omega)
      rw [← hl] at c0 hxr
      have Hlast : Hid (∀ n, fo = some n → l = ((n - b : Nat) : Int) ∧ b ≤ n ∧ n ≤ e) := hide (fun n hn => by rw [hl]; exact sub_last hS.out (by omega) hn (Hfo.out n hn))
      rw [hj2] at c0
      clear hl
      by_cases hin : 0 ≤ l ∧ l ≤ ((e - b : Nat) : Int)
      · obtain ⟨m, rfl⟩ : ∃ m : Nat, l = m := ⟨l.toNat, by omega⟩
        have hme : b + m ≤ e := by omega
        have LP := hide (l2Path_any S (b + m) w Hd.out (by omega))
        have Lk := hide (Hf.out.is (b + m) (by omega))
        have Hm : Hid (∀ n, fo = some n → n = b + m) := hide (fun n hn => by have := Hlast.out n hn; omega)
        clear Hlast
        go_wp2_with fail
        refine LP.out.mono ?_
        rintro e2 w2 ⟨v2, rfl, hown, hb2⟩
        obtain ⟨g2, c2, rfl, q1, q2, q3, q4, n2, -⟩ := ints_shape hown (path_ne S.data.toList (b + m))
        have hpl2 := path_le S (b + m) (by omega)
        have p2 := Hp.out.later hb2 hgp
        have hsz2 := hb2.size
        obtain ⟨L, hLq⟩ : ∃ L, L = path S.data.toList (b + m) := ⟨_, rfl⟩
        rw [← hLq] at q1 n2 hpl2 Lk
        rw [← hLq]
        have Hne : Hid (L ≠ p → fo = none) := hide (fun hn => by
          cases h : fo with
          | none => rfl
          | some n => exact absurd (Lk.out.2 (by rw [h, Hm.out n h])) hn)
        clear hown LP hLq
        by_cases hlen : L.length = p.length
        · go_wp2
          go_loopw [91] (fun i wr => ∃ k : Nat, k ≤ L.length ∧ i = .int .i64 k ∧ Hid (L.take k = p.take k) ∧ Below w2.heap.size w2 wr) (fun i _ => L.length - (intOf i).toNat)
          case atStart => exact ⟨0, by omega, rfl, hide rfl, Below.refl _ _⟩
          case round =>
            obtain ⟨k, hk, rfl, hpk, hbel⟩ := hrel
            have hB := hb2.trans (hbel.mono hb2.size)
            by_cases hltk : k < L.length
            · have hltb : k < p.length := by omega
              have a0 := n2.later hbel q4 k hltk
              have b0 := p2.later hbel (by omega) k hltb
              have Hs := hide (fun e => take_eq_step hpk.out hltk hltb e)
              have Hn := hide (fun e => list_ne_at hltk hltb e)
              by_cases e : L[k] = p[k]
              · have e1 : (L[k] != p[k]) = false := by simp [e]
                have He := hide e
                clear e
                go_wp2
                go_quiet (fail)
                go_wp2
                go_roundw
                case rel => exact ⟨k + 1, by omega, by go_num, hide (Hs.out He.out), hbel.trans ⟨rfl, rfl, rfl, Nat.le_refl _, fun _ _ => rfl⟩⟩
                case measure => simp [intOf]; omega
              · have e1 : (L[k] != p[k]) = true := by simp [e]
                have Hno := hide (Hne.out (Hn.out e))
                clear e
                go_wp2
                go_quiet (fail)
                go_wp2
                go_ret2
                rw [Hno.out]
                exact ⟨rfl, hB.trans ⟨rfl, rfl, rfl, Nat.le_refl _, fun _ _ => rfl⟩⟩
            · obtain rfl : k = L.length := by omega
              have E : L = p := by
                have := hpk.out
                rw [List.take_length, hlen, List.take_length] at this
                exact this
              have HE := hide (Lk.out.1 E)
              clear E
              go_wp2
              go_ret2
              rw [HE.out]
              exact ⟨rfl, hB⟩
        · have Hno := hide (Hne.out (fun e => hlen (by rw [e])))
          go_wp2
          go_ret2
          rw [Hno.out]
          exact ⟨rfl, hb2⟩
      · have hno : fo = none := by
          cases h : fo with
          | none => rfl
          | some n => have := Hlast.out n h; omega
        have Hno := hide hno
        clear hno
        have hout : l < 0 ∨ ((e : Int) - (b : Int)) < l := by omega
        clear hin
        rcases hout with h | h
        all_goals
          go_wp2
          go_ret2
          rw [Hno.out]
          exact ⟨rfl, Below.refl _ _⟩
end Go.Proofs.YtbmnciejaknonatDoor
