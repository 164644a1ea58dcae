/- The model's greedy lines. -/
import Derived.Test.YtgacajnljplmiabDoorLin7
set_option linter.unusedVariables false
namespace Go.Proofs.YtgacajnljplmiabDoor
open Go.RowKit
open Doc1

def slLen : Value → Nat
  | .slice _ n _ => n
  | _ => 0
/-- What is left of a row from a place on. -/
def Lft (a : Option Addr) (n cap at_ : Nat) (v : Value) : Prop := (at_ < n ∧ ∃ g o, a = some ⟨g, o, none⟩ ∧ v = .slice (some ⟨g, o + at_, none⟩) (n - at_) (cap - at_)) ∨ (at_ = n ∧ ∃ x c, v = .slice x 0 c)
theorem lft_next (g o n cap at_ k : Nat) (h0 : 0 < k) (h1 : at_ + k ≤ n) (h2 : n ≤ cap) : ∃ v, (∀ w : World, (Instr.slice 23 (.slice (some ⟨g, o + at_, none⟩) (n - at_) (cap - at_)) (some (.int .i64 (k : Int))) none none).run Tryd.prog w = .ok v w) ∧ Lft (some ⟨g, o, none⟩) n cap (at_ + k) v ∧ slLen v = n - at_ - k ∧ ∃ x m c, v = .slice x m c := by
  by_cases hc : k < cap - at_
  · refine ⟨_, cut_from g (o + at_) (n - at_) (cap - at_) k (by omega) hc, ?_, rfl, _, _, _, rfl⟩
    by_cases hn : at_ + k = n
    · exact .inr ⟨hn, _, _, by rw [show n - at_ - k = 0 by omega]⟩
    · exact .inl ⟨by omega, g, o, rfl, by rw [Nat.add_assoc, Nat.sub_sub, Nat.sub_sub]⟩
  · refine ⟨.slice (some ⟨g, o + at_, none⟩) 0 0, fun w => ?_, .inr ⟨by omega, _, _, rfl⟩, by show 0 = _; omega, _, _, _, rfl⟩
    have e1 : cap - at_ = k := by omega
    have e2 : n - at_ = k := by omega
    rw [e1, e2]
    simp [go_sem, Tryd.underlying23]
theorem gE_split {l : List ByteArray} {n : Int} {es : List Nat} {x k : Nat} (hx : x < l.length) (h : es ++ gE l n x = gE l n 0) (hk : gx l n x (x + 1) = x + k) : (es ++ [x + k]) ++ gE l n (x + k) = gE l n 0 := by
  rw [← h, gE_on hx, hk]
  simp

set_option maxRecDepth 100000 in
set_option maxHeartbeats 1000000 in
theorem l13Greedy_any (l : List ByteArray) (n : Int) (a : Option Addr) (cap : Nat) (w : World) (hd : Sd l n) (h : StIn w a cap l) :
    Calls Tryd.prog 56 #[.slice a l.length cap, .int .i64 n] w (LsPost (grL l n) w) := by
  obtain ⟨i0, hi0, hz0, hz1, hz2⟩ := info_parts Tryd.infoStr
  have hc1 := h.c1
  have hc2 := h.c2
  unfold maxLen at hc2
  have hl := hd.len
  have H := hide h
  have HD := hide hd
  have LO : Hid (∀ (g o x y c : Nat) (w' : World), a = some ⟨g, o, none⟩ → Below w.heap.size w w' → c = cap - x → x ≤ y → y ≤ l.length → Calls Tryd.prog 112 #[.slice (some ⟨g, o + x, none⟩) (y - x) c] w' fun e w'' => e = .returned (.string (jn (Doc1.sl l x y))) ∧ w'' = w') := hide (fun g o x y c w' ha hb hc h1 h2 => by
    subst hc
    have h3 := h.later hb
    rw [ha] at h3
    have := l13Join_any (Doc1.sl l x y) _ _ w' (h3.sl x y h1 h2) (by have := tt_sl l x y; have := hd.tt_le; omega) (by rw [sl_len h2]; omega)
    rw [sl_len h2] at this
    exact this)
  have hst : Lft a l.length cap 0 (.slice a l.length cap) := by
    by_cases h0 : l.length = 0
    · exact .inr ⟨h0.symm, a, cap, by rw [h0]⟩
    · obtain ⟨g, o, rfl, -⟩ := h.ce 0 (by omega)
      exact .inl ⟨by omega, g, o, rfl, rfl⟩
  have HST := hide hst
  clear h hd hst
  go_enter Tryd.func56, Tryd.ntmps56
  go_wp2
  go_loopw [0, 5] (fun vw v wr => ∃ at_ : Nat, at_ ≤ l.length ∧ ∃ v0 es v1, v0 = v ∧ v1 = vw ∧ Hid (Lft a l.length cap at_ v1) ∧ Hid (es ++ gE l n at_ = gE l n 0 ∧ es.getLastD 0 = at_ ∧ es.length ≤ at_) ∧ Hid (SOwn wr w.heap.size v0 (lnE l 0 es) ∧ Below w.heap.size w wr)) (fun vw _ _ => slLen vw)
  case atStart => exact ⟨0, Nat.zero_le _, _, [], _, rfl, rfl, HST, hide ⟨rfl, rfl, Nat.le_refl _⟩, hide ⟨World.ownsRow_nil _ _ _ _, Below.refl _ _⟩⟩
  case round =>
    obtain ⟨x, hx, v, es, vw, hv0, hv1, HV, HE, HO⟩ := hrel
    subst hv0 hv1
    rcases HV.out with ⟨hlt, g, o, rfl, rfl⟩ | ⟨rfl, xa, xc, rfl⟩
    · have hB := HO.out.2.size
      obtain ⟨wo, rfl⟩ : ∃ wo, wo = wr := ⟨_, rfl⟩
      have hpos : decide (0 < l.length - x) = true := by rw [decide_eq_true_iff]; omega
      clear HV
      go_wp2
      go_loopw [6] (fun vn wi => ∃ k : Nat, 0 < k ∧ k ≤ l.length - x ∧ vn = .int .i64 (k : Int) ∧ Hid (gx l n x (x + 1) = gx l n x (x + k)) ∧ wi = wo) (fun vn _ => l.length - (intOf vn).toNat)
      case atStart => exact ⟨1, by omega, by omega, rfl, hide rfl, rfl⟩
      case round =>
        obtain ⟨k, hk0, hk1, rfl, HG, hw0⟩ := hrel
        replace hw0 := hw0.symm
        subst hw0
        by_cases hk2 : k < l.length - x
        · have hct := cut_to g (o + x) (l.length - x) (cap - x) (k + 1) (by omega)
          rw [show (((k + 1 : Nat)) : Int) = (k : Int) + 1 by omega] at hct
          have J := hide (LO.out g o x (x + (k + 1)) (cap - x) wo rfl HO.out.2 rfl (by omega) (by omega))
          rw [show x + (k + 1) - x = k + 1 by omega] at J
          have hdk : decide ((k : Int) < ((l.length - x : Nat) : Int)) = true := by rw [decide_eq_true_iff]; omega
          have hwl := wdS_le (a := x) (b := x + (k + 1)) HD.out.tt_le HD.out.len
          by_cases hw : (wdS l x (x + (k + 1)) : Int) ≤ n
          · have HG2 : Hid (gx l n x (x + 1) = gx l n x (x + (k + 1))) := hide (by rw [HG.out, gx_yes (e := x + k) (by omega) hw]; rfl)
            unfold wdS at hw hwl
            obtain ⟨S, hS⟩ : ∃ S, S = jn (Doc1.sl l x (x + (k + 1))) := ⟨_, rfl⟩
            rw [← hS] at J hw hwl
            have hdw : decide ((S.size : Int) ≤ n) = true := decide_eq_true hw
            clear hS hw
            go_wp2_with (go_at_call 112; refine J.out.mono ?_; rintro e w' ⟨rfl, hw'⟩; replace hw' := hw'.symm; subst hw')
            exact ⟨⟨k + 1, by omega, by omega, by go_num, HG2, trivial⟩, by simp [intOf]; omega⟩
          · have HG2 : Hid (gx l n x (x + 1) = x + k) := hide (by rw [HG.out, gx_no (e := x + k) (fun e => hw e.2)])
            unfold wdS at hw hwl
            obtain ⟨S, hS⟩ : ∃ S, S = jn (Doc1.sl l x (x + (k + 1))) := ⟨_, rfl⟩
            rw [← hS] at J hw hwl
            have hdw : decide ((S.size : Int) ≤ n) = false := decide_eq_false hw
            clear hS hw
            have J2 := hide (LO.out g o x (x + k) (cap - x) wo rfl HO.out.2 rfl (by omega) (by omega))
            rw [show x + k - x = k by omega] at J2
            have hct2 := cut_to g (o + x) (l.length - x) (cap - x) k (by omega)
            obtain ⟨vn, hnx, hvn, hvl, xa, xm, xc, rfl⟩ := lft_next g o l.length cap x k hk0 (by omega) hc1
            have HE2 : Hid ((es ++ [x + k]) ++ gE l n (x + k) = gE l n 0 ∧ (es ++ [x + k]).getLastD 0 = x + k ∧ (es ++ [x + k]).length ≤ x + k) := hide ⟨gE_split hlt HE.out.1 HG2.out, by simp, by rw [List.length_append]; have := HE.out.2.2; simp only [List.length_singleton]; omega⟩
            have hLn : Hid (lnE l 0 (es ++ [x + k]) = lnE l 0 es ++ [jn (Doc1.sl l x (x + k))]) := hide (by rw [lnE_snoc, HE.out.2.1])
            have hlk : (lnE l 0 es).length ≤ 60 := by rw [lnE_len]; have := HE.out.2.2; omega
            obtain ⟨S2, hS2⟩ : ∃ S2, S2 = jn (Doc1.sl l x (x + k)) := ⟨_, rfl⟩
            rw [← hS2] at J2 hLn
            obtain ⟨M, hM⟩ : ∃ M, M = lnE l 0 es := ⟨_, rfl⟩
            rw [← hM] at hLn HO hlk
            have HVN := hide hvn
            have HVL := hide hvl
            clear hS2 hM hvn hvl
            go_wp2_with (first
              | (go_at_call 112; have hJ9 := hJd; refine J2.out.mono ?_; rintro e w' ⟨rfl, hw'⟩; replace hw' := hw'.symm; subst hw'; clear J2)
              | (go_at_call 112; refine J.out.mono ?_; rintro e w' ⟨rfl, hw'⟩; replace hw' := hw'.symm; subst hw'; clear J; have hJd : True := trivial)
              | (at_builtin; refine wpList_append_loc _ rfl _ _ 23 rfl w.heap.size 9 i0 (.string ⟨#[]⟩) 1 16 Tryd.underlying23 hi0 hz0 hz1 hz2 rfl (by decide) _ _ _ rfl (World.ownsRow.alloc HO.out.1 _) ⟨wo.heap.size, 0, none⟩ 1 1 [.string S2] rfl rfl (World.news_of_block (cs := #[.string S2]) (t := 9) (fr := (0, 0)) (heap_alloc_new wo _)) (by simp [Value.oneCell']) (by unfold maxLen; omega) (by omega) (by simp; omega) ?_; intro v3 w3 own3 grow3 loc3; have HR3 : Hid (SOwn w3 w.heap.size v3 (lnE l 0 (es ++ [x + k])) ∧ Below w.heap.size w w3) := hide ⟨(by rw [hLn.out]; exact SOwn.app1 own3), grown_belowB (HO.out.2.alloc hB _) (by simp; omega) (World.ownsRow.alloc HO.out.1 _) grow3⟩; clear own3 grow3 loc3))
            refine ⟨⟨x + k, by omega, v3, es ++ [x + k], _, rfl, rfl, HVN, HE2, HR3⟩, ?_⟩
            rw [HVL.out]
            show l.length - x - k < l.length - x
            omega
        · have HG2 : Hid (gx l n x (x + 1) = x + k) := hide (by rw [HG.out, gx_no (e := x + k) (fun e => by omega)])
          have hdk : decide ((k : Int) < ((l.length - x : Nat) : Int)) = false := by rw [decide_eq_false_iff_not]; omega
          have J2 := hide (LO.out g o x (x + k) (cap - x) wo rfl HO.out.2 rfl (by omega) (by omega))
          rw [show x + k - x = k by omega] at J2
          have hct2 := cut_to g (o + x) (l.length - x) (cap - x) k (by omega)
          obtain ⟨vn, hnx, hvn, hvl, xa, xm, xc, rfl⟩ := lft_next g o l.length cap x k hk0 (by omega) hc1
          have HE2 : Hid ((es ++ [x + k]) ++ gE l n (x + k) = gE l n 0 ∧ (es ++ [x + k]).getLastD 0 = x + k ∧ (es ++ [x + k]).length ≤ x + k) := hide ⟨gE_split hlt HE.out.1 HG2.out, by simp, by rw [List.length_append]; have := HE.out.2.2; simp only [List.length_singleton]; omega⟩
          have hLn : Hid (lnE l 0 (es ++ [x + k]) = lnE l 0 es ++ [jn (Doc1.sl l x (x + k))]) := hide (by rw [lnE_snoc, HE.out.2.1])
          have hlk : (lnE l 0 es).length ≤ 60 := by rw [lnE_len]; have := HE.out.2.2; omega
          obtain ⟨S2, hS2⟩ : ∃ S2, S2 = jn (Doc1.sl l x (x + k)) := ⟨_, rfl⟩
          rw [← hS2] at J2 hLn
          obtain ⟨M, hM⟩ : ∃ M, M = lnE l 0 es := ⟨_, rfl⟩
          rw [← hM] at hLn HO hlk
          have HVN := hide hvn
          have HVL := hide hvl
          clear hS2 hM hvn hvl
          go_wp2_with (first
            | (go_at_call 112; refine J2.out.mono ?_; rintro e w' ⟨rfl, hw'⟩; replace hw' := hw'.symm; subst hw'; clear J2)
              | (at_builtin; refine wpList_append_loc _ rfl _ _ 23 rfl w.heap.size 9 i0 (.string ⟨#[]⟩) 1 16 Tryd.underlying23 hi0 hz0 hz1 hz2 rfl (by decide) _ _ _ rfl (World.ownsRow.alloc HO.out.1 _) ⟨wo.heap.size, 0, none⟩ 1 1 [.string S2] rfl rfl (World.news_of_block (cs := #[.string S2]) (t := 9) (fr := (0, 0)) (heap_alloc_new wo _)) (by simp [Value.oneCell']) (by unfold maxLen; omega) (by omega) (by simp; omega) ?_; intro v3 w3 own3 grow3 loc3; have HR3 : Hid (SOwn w3 w.heap.size v3 (lnE l 0 (es ++ [x + k])) ∧ Below w.heap.size w w3) := hide ⟨(by rw [hLn.out]; exact SOwn.app1 own3), grown_belowB (HO.out.2.alloc hB _) (by simp; omega) (World.ownsRow.alloc HO.out.1 _) grow3⟩; clear own3 grow3 loc3))
          refine ⟨⟨x + k, by omega, v3, es ++ [x + k], _, rfl, rfl, HVN, HE2, HR3⟩, ?_⟩
          rw [HVL.out]
          show l.length - x - k < l.length - x
          omega
    · have HZ : Hid (lnE l 0 es = grL l n) := hide (by unfold grL; rw [← HE.out.1, gE_end (by omega), List.append_nil])
      go_wp2
      go_ret
      exact ⟨v, rfl, by rw [← HZ.out]; exact HO.out.1, HO.out.2⟩

end Go.Proofs.YtgacajnljplmiabDoor
