/- The model's own helpers over ropes, on: pieces joined evenly, cut, told, read. -/
import Derived.Test.YtgacajnljplmiabDoorRpt1
set_option linter.unusedVariables false
namespace Go.Proofs.YtgacajnljplmiabDoor
open Go.RowKit
open Doc1

theorem cutS_low (g off n cap k : Nat) (h : k ≤ cap) (w : World) : (Instr.slice 23 (.slice (some ⟨g, off, none⟩) n cap) none (some (.int .i64 (k : Int))) none).run Tryd.prog w = .ok (.slice (some ⟨g, off, none⟩) k cap) w := by
  simp [go_sem, Tryd.underlying23, h]

theorem cutS_high (g off n cap k : Nat) (h : k ≤ n) (h2 : k < cap) (w : World) : (Instr.slice 23 (.slice (some ⟨g, off, none⟩) n cap) (some (.int .i64 (k : Int))) none none).run Tryd.prog w = .ok (.slice (some ⟨g, off + k, none⟩) (n - k) (cap - k)) w := by
  have : ¬ cap = k := by omega
  simp [go_sem, Tryd.underlying23, h, this]

theorem evn_some {l : List ByteArray} (h : 0 < l.length) : ∃ t, evn l = some t := by
  have := evn_pc _ l rfl
  cases hh : evn l with
  | none => rw [hh] at this; rw [← this] at h; simp [pcO] at h
  | some t => exact ⟨t, rfl⟩

set_option maxRecDepth 100000 in
set_option maxHeartbeats 4000000 in
theorem l12Build_none (a : Option Addr) (cap : Nat) (w : World) :
    Calls Tryd.prog 95 #[.slice a 0 cap] w (OwPost w []) := by
  unfold OwPost
  go_enter Tryd.func95, Tryd.ntmps95
  go_wp2
  go_ret
  exact ⟨_, rfl, World.ownsRow_nil _ _ _ _, Below.refl _ _⟩

set_option maxRecDepth 100000 in
set_option maxHeartbeats 4000000 in
theorem l12Build_some (n : Nat) : ∀ (l : List ByteArray) (g off cap : Nat) (w : World), l.length = n → 0 < n → StAt w g off l → g < w.heap.size → l.length ≤ cap → cap ≤ maxLen → l.length ≤ 4000 → tot l ≤ 100000 →
    Calls Tryd.prog 95 #[.slice (some ⟨g, off, none⟩) l.length cap] w (OwPost w (bo (evn l))) := by
  induction n using Nat.strongRecOn with
  | ind n ih =>
    intro l g off cap w hn h0 hs hg hc hm hl ht
    by_cases h1 : l.length = 1
    · have c0 := hs 0 (by omega)
      rw [Nat.add_zero] at c0
      have e : evn l = some (.pc l[0]) := by
        rw [evn, dif_neg (by omega), dif_pos h1, List.getD_eq_getElem?_getD, List.getElem?_eq_getElem (by omega)]
        rfl
      rw [e]
      have hz0 := tot_at (l := l) (k := 0) (by omega)
      have P := hide (l12Piece_any l[0] w (by omega))
      obtain ⟨s0, hs0⟩ : ∃ s0, l[0] = s0 := ⟨_, rfl⟩
      rw [hs0] at c0 P ⊢
      rw [h1]
      unfold OwPost at P ⊢
      clear ih e hs0 hz0
      go_enter Tryd.func95, Tryd.ntmps95
      go_wp2_with fail
      refine P.out.mono ?_
      rintro e w2 ⟨v2, rfl, hi, hb⟩
      go_wp2
      go_ret
      exact ⟨v2, rfl, hi, hb⟩
    · obtain ⟨k, hk⟩ : ∃ k, k = (l.length + 1) / 2 := ⟨_, rfl⟩
      have e : evn l = jo (evn (l.take k)) (evn (l.drop k)) := by
        rw [evn, dif_neg (by omega), dif_neg h1, ← hk]
      rw [e]
      have hk1 : 0 < k := by omega
      have hk2 : k < l.length := by omega
      have l1 : (l.take k).length = k := by rw [List.length_take]; omega
      have l2 : (l.drop k).length = l.length - k := List.length_drop
      have ht2 := tot_take_drop l k
      have A1 := hide (fun w' (hb : Below w.heap.size w w') => ih k (by omega) (l.take k) g off cap w' l1 (by omega) ((hs.take k).later hb hg) (Nat.lt_of_lt_of_le hg hb.size) (by omega) hm (by omega) (by omega))
      have A2 := hide (fun w' (hb : Below w.heap.size w w') => ih (l.length - k) (by omega) (l.drop k) g (off + k) (cap - k) w' l2 (by omega) ((hs.drop k).later hb hg) (Nat.lt_of_lt_of_le hg hb.size) (by omega) (by omega) (by omega) (by omega))
      rw [l1] at A1
      rw [l2] at A2
      have z1 := szO_evn (l.take k)
      have z2 := szO_evn (l.drop k)
      have y1 := nbO_evn (l.take k)
      have y2 := nbO_evn (l.drop k)
      rw [l1] at y1
      rw [l2] at y2
      obtain ⟨p, hoa⟩ := evn_some (l := l.take k) (by omega)
      obtain ⟨q, hob⟩ := evn_some (l := l.drop k) (by omega)
      rw [hoa] at A1 z1 y1 ⊢
      rw [hob] at A2 z2 y2 ⊢
      simp only [szO, nbO] at z1 z2 y1 y2
      have JL := hide (fun ga gb ca cb w' ha hga hca hb hgb hcb => l12Join_some p q ga gb ca cb w' ha hga hca hb hgb hcb (by omega) (by omega))
      unfold OwPost at A1 A2 JL ⊢
      obtain ⟨vr, hvr⟩ : ∃ vr, bo (some (.jn p q)) = vr := ⟨_, rfl⟩
      rw [show jo (some p) (some q) = some (.jn p q) from rfl]
      rw [hvr] at JL ⊢
      have lp : (bo (some p)).length = p.nb := Lm.pd_len p 0
      have lq : (bo (some q)).length = q.nb := Lm.pd_len q 0
      have HLP := hide (And.intro lp lq)
      have hcl := cutS_low g off l.length cap k (by omega)
      have hch := cutS_high g off l.length cap k (by omega) (by omega)
      have hq1 : IntKind.i64.wrap ((l.length : Int) + 1) = (l.length : Int) + 1 := by rw [IntKind.wrap_i64]; omega
      have HK := hide hk
      clear ih e hs hoa hob hvr lp lq l1 l2 z1 z2 y1 y2 ht2 hn h0 ht hk
      go_enter Tryd.func95, Tryd.ntmps95
      go_wp2
      rw [show ((l.length : Int) + 1) / 2 = (k : Int) by have := HK.out; omega]
      have hbz : (0 : Int) ≤ (k : Int) ∧ (k : Int) ≤ (cap : Int) ∧ k < cap ∧ k ≤ l.length := by omega
      clear hq1 hk1 hk2 h1 hc hm hl
      obtain ⟨hb0, hb1, hb2, hb3⟩ := hbz
      go_region_held3 (fun w' => True) (trivial)
        (first
          | (go_at_call 82; refine (JL.out _ _ _ _ wb (HIA.out.2.2.2.later hbb HIA.out.1) (Nat.lt_of_lt_of_le HIA.out.1 hbb.size) HIA.out.2.1 HIB.out.2.2.2 HIB.out.1 HIB.out.2.1).mono ?_; rintro e wc ⟨v3, rfl, hi3, hbc⟩; have hbx3 : Below w.heap.size w wc := hbx2.trans (hbc.mono hbx2.size))
          | (go_at_call 95; refine (A2.out _ hbx1).mono ?_; rintro e wb ⟨v2, rfl, hi2, hbb⟩; obtain ⟨g2, c2, rfl, k1, k2, k3, k4, k5, -⟩ := BoOwn.shape hi2 (pd_ne q 0); have HIB := hide (And.intro k4 (And.intro (And.intro (HLP.out.2 ▸ k1) k2) (And.intro trivial k5))); have hbx2 : Below w.heap.size w wb := hbx1.trans (hbb.mono hbx1.size); rw [HLP.out.2]; clear hi2 k1 k2 k3 k4 k5)
          | (go_at_call 95; refine (A1.out _ (Below.refl _ _).drew).mono ?_; rintro e wa ⟨v1, rfl, hi1, hba⟩; obtain ⟨g1, c1, rfl, k1, k2, k3, k4, k5, -⟩ := BoOwn.shape hi1 (pd_ne p 0); have HIA := hide (And.intro k4 (And.intro (And.intro (HLP.out.1 ▸ k1) k2) (And.intro trivial k5))); have hbx1 : Below w.heap.size w wa := (Below.refl _ _).drew.trans hba; rw [HLP.out.1]; clear hi1 k1 k2 k3 k4 k5))
      go_wp2
      go_ret
      exact ⟨v3, rfl, own_mono hi3 hbx2.size, hbx3⟩

/-- A row of texts that is read. -/
theorem TxOwn.at' {w : World} {B : Nat} {v : Value} {l : List ByteArray} (h : TxOwn w B v l) : ∃ a cap, v = .slice a l.length cap ∧ l.length ≤ cap ∧ cap ≤ maxLen ∧ ∀ i (hi : i < l.length), ∃ g, a = some ⟨g, 0, none⟩ ∧ g < w.heap.size ∧ w.cell? ⟨g, i, none⟩ = some (.string l[i]) := by
  unfold TxOwn at h
  obtain ⟨a, cap, rfl, k1, k2⟩ := own_shp h
  refine ⟨a, cap, rfl, k1, k2, fun i hi => ?_⟩
  obtain ⟨g, cc, e, -, -, -, z, -⟩ := own_open h (by omega)
  simp only [Value.slice.injEq] at e
  obtain ⟨e1, -, -⟩ := e
  subst e1
  refine ⟨g, rfl, z, ?_⟩
  rw [World.ownsRow.cellAt h i (by omega)]
  simp [stC, hi]

theorem l12Build_own {w : World} {B : Nat} {v : Value} {l : List ByteArray} (h : TxOwn w B v l) (hl : l.length ≤ 4000) (ht : tot l ≤ 100000) :
    Calls Tryd.prog 95 #[v] w (OwPost w (bo (evn l))) := by
  obtain ⟨a, cap, rfl, k1, k2, hc⟩ := h.at'
  by_cases h0 : l.length = 0
  · have e : evn l = none := by rw [evn, dif_pos h0]
    rw [h0, e]
    exact l12Build_none a cap w
  · obtain ⟨g, rfl, hg, -⟩ := hc 0 (by omega)
    exact l12Build_some l.length l g 0 cap w rfl (by omega) (fun i hi => by
      obtain ⟨g', e, -, c⟩ := hc i hi
      cases e
      rw [Nat.zero_add]
      exact c) hg k1 k2 (by omega) (by omega)

set_option maxRecDepth 100000 in
set_option maxHeartbeats 4000000 in
theorem l12Cut_any (s : ByteArray) (w : World) (hs : s.size ≤ 100000) :
    Calls Tryd.prog 81 #[.string s] w fun e w' => ∃ v, e = .returned v ∧ TxOwn w' w.heap.size v (cutL s) ∧ Below w.heap.size w w' := by
  obtain ⟨i0, hi0, hz0, hz1, hz2⟩ := info_parts Tryd.infoStr
  go_enter Tryd.func81, Tryd.ntmps81
  go_wp2
  go_loopw [0, 3] (fun vs v wr => ∃ (k : Nat) (t : ByteArray), 8 * k ≤ s.size ∧ (k = 0 ∨ 8 * k < s.size) ∧ vs = .string t ∧ t.size = s.size - 8 * k ∧ Hid (t = s.extract (8 * k) s.size) ∧ ∃ v0, v0 = v ∧ Hid (TxOwn wr w.heap.size v0 ((List.range k).map (cutP s)) ∧ Below w.heap.size w wr)) (fun vs _ _ => match vs with | .string t => t.size | _ => 0)
  case atStart => exact ⟨0, s, by omega, .inl rfl, rfl, by omega, hide (by rw [Nat.mul_zero, ByteArray.extract_zero_size]), _, rfl, hide ⟨World.ownsRow_nil _ _ _ _, Below.refl _ _⟩⟩
  case round =>
    obtain ⟨k, t, hk, hk2, rfl, htz, HT, v, hv0, HR⟩ := hrel
    subst hv0
    have hB := HR.out.2.size
    have hrl : ((List.range k).map (cutP s)).length = k := by simp
    by_cases hlt : 8 < t.size
    · have e0 : decide ((8 : Int) < (t.size : Int)) = true := by rw [decide_eq_true_iff]; omega
      have HC : Hid (t.extract 0 8 = cutP s k) := hide (by
        apply Doc1.ba_eq
        unfold cutP
        have hall : s.data.toList.take s.size = s.data.toList := List.take_of_length_le (by rw [← szB]; exact Nat.le_refl _)
        rw [HT.out, ext_list, ext_list, ext_list, List.drop_zero, Nat.min_eq_left (by omega), hall, List.drop_take, show 8 * k + 8 - 8 * k = 8 by omega])
      have HN : Hid (t.extract 8 t.size = s.extract (8 * (k + 1)) s.size) := hide (by
        apply Doc1.ba_eq
        rw [ext_list, ext_list, List.take_of_length_le (by rw [← szB]; omega), List.take_of_length_le (by rw [← szB]; omega), HT.out, ext_list, List.take_of_length_le (by rw [← szB]; omega), List.drop_drop, show 8 * k + 8 = 8 * (k + 1) by omega])
      have hb8 : (8 : Int) ≤ (t.size : Int) := by omega
      have hxs : (t.extract 8 t.size).size = t.size - 8 := by rw [ByteArray.size_extract]; omega
      have HX := hide (And.intro hxs htz)
      have htb : t.size ≤ 100000 := by omega
      have hkb : k ≤ 100000 := by omega
      clear hxs htz
      go_wp2_with (at_builtin; go_loud (refine wpList_append_loc _ rfl _ _ 23 rfl w.heap.size 9 i0 (.string ⟨#[]⟩) 1 16 Tryd.underlying23 hi0 hz0 hz1 hz2 rfl (by decide) _ _ _ rfl (World.ownsRow.alloc HR.out.1 _) ⟨wr.heap.size, 0, none⟩ 1 1 [.string (t.extract 0 8)] rfl rfl (World.news_of_block (cs := #[.string (t.extract 0 8)]) (t := 9) (fr := (0, 0)) (heap_alloc_new wr _)) (by simp [Value.oneCell']) (by unfold maxLen; omega) (by omega) (by simp; omega) ?_); intro v5 w5 own5 grow5 loc5; have HR5 : Hid (TxOwn w5 w.heap.size v5 ((List.range (k + 1)).map (cutP s)) ∧ Below w.heap.size w w5) := hide ⟨(by rw [List.range_succ, List.map_append, List.map_singleton, ← HC.out]; exact TxOwn.app own5), below_append HR.out.2 HR.out.1 hB grow5⟩; clear own5 grow5 loc5 HR)
      obtain ⟨hxs, htz⟩ := HX.out
      exact ⟨⟨k + 1, _, by omega, .inr (by omega), rfl, by omega, HN, v5, rfl, HR5⟩, by simp only; omega⟩
    · have e0 : decide ((8 : Int) < (t.size : Int)) = false := by rw [decide_eq_false_iff_not]; omega
      by_cases h0 : t.size = 0
      · have he : t.toList.isEmpty = true := by rw [Lib.toList_data, List.isEmpty_iff_length_eq_zero, ← szB]; exact h0
        have HE : Hid ((List.range k).map (cutP s) = cutL s) := hide (by unfold cutL cutN; rw [show k = (s.size + 7) / 8 by omega])
        go_wp2
        go_ret
        exact ⟨v, rfl, by rw [← HE.out]; exact HR.out.1, HR.out.2⟩
      · have he : t.toList.isEmpty = false := by rw [Lib.toList_data, List.isEmpty_eq_false_iff, ← List.length_pos_iff, ← szB]; omega
        have HE : Hid ((List.range k).map (cutP s) ++ [t] = cutL s) := hide (by
          have e1 : t = cutP s k := by
            unfold cutP
            rw [HT.out, Nat.min_eq_right (by omega)]
          unfold cutL cutN
          rw [show (s.size + 7) / 8 = k + 1 by omega, List.range_succ, List.map_append, List.map_singleton, ← e1])
        go_wp2_with (at_builtin; go_loud (refine wpList_append_loc _ rfl _ _ 23 rfl w.heap.size 9 i0 (.string ⟨#[]⟩) 1 16 Tryd.underlying23 hi0 hz0 hz1 hz2 rfl (by decide) _ _ _ rfl (World.ownsRow.alloc HR.out.1 _) ⟨wr.heap.size, 0, none⟩ 1 1 [.string t] rfl rfl (World.news_of_block (cs := #[.string t]) (t := 9) (fr := (0, 0)) (heap_alloc_new wr _)) (by simp [Value.oneCell']) (by unfold maxLen; omega) (by omega) (by simp; omega) ?_); intro v5 w5 own5 grow5 loc5; have HR5 : Hid (TxOwn w5 w.heap.size v5 (cutL s) ∧ Below w.heap.size w w5) := hide ⟨(by rw [← HE.out]; exact TxOwn.app own5), below_append HR.out.2 HR.out.1 hB grow5⟩; clear own5 grow5 loc5 HR)
        go_ret
        exact ⟨v5, rfl, HR5.out.1, HR5.out.2⟩
end Go.Proofs.YtgacajnljplmiabDoor
