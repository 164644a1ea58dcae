/- The model's functions over ropes: GoodRope, TextIn, PiecesOf, RopeOf, Rebalance, JoinRopes. -/
import Derived.Test.YtgacajnljplmiabDoorRpt5
set_option linter.unusedVariables false
namespace Go.Proofs.YtgacajnljplmiabDoor
open Go.RowKit
open Doc1

theorem rtB_iff {l : List Bg} : rtB l = true ↔ ∃ o, RO l o := by
  unfold rtB
  rw [Option.isSome_iff_exists]
  exact ⟨fun ⟨o, h⟩ => ⟨o, dc_ro h⟩, fun ⟨o, h⟩ => ⟨o, dc_some h⟩⟩

theorem rtB_nil : rtB [] = true := rtB_iff.2 ⟨none, rfl⟩

theorem rtO_of {l : List Bg} {o : Option Lm} (h : RO l o) : rtO l = o := by unfold rtO; rw [dc_some h]; rfl

theorem rtO_ro {l : List Bg} (h : rtB l = true) : RO l (rtO l) := by
  obtain ⟨o, ho⟩ := rtB_iff.1 h
  rw [rtO_of ho]; exact ho

theorem rt_bo {l : List Bg} (h : rtB l = true) : l = bo (rtO l) := (RO_bo (rtO_ro h)).1

theorem rt_no {l : List Bg} (h : rtB l = false) : rtO l = none := by
  unfold rtB at h; unfold rtO
  cases hd : dc l with
  | none => rfl
  | some o => rw [hd] at h; cases h

theorem rtB_some {l : List Bg} {n : Nat} (hn : l.length = n + 1) (h2 : n + 1 ≤ 200) : (frs l n = 0 → rtB l = decide ((l[n]'(by omega)).size ≤ 300)) ∧ (frs l n ≠ 0 → rtB l = false) := by
  have h0 : l ≠ [] := fun c => by rw [c] at hn; simp at hn
  constructor
  · intro hf
    rcases frs_or l n with ⟨f, t, ht, e⟩ | ⟨-, e⟩
    · rw [hf] at e
      have : f = 0 := by omega
      subst this
      have hr := ht.root
      obtain ⟨r, hr, hz, -⟩ := hr
      rw [Nat.add_sub_cancel, List.getElem?_eq_getElem (by omega)] at hr
      have hr2 : l[n] = r := Option.some.inj hr
      rw [hr2, hz]
      rw [← hn] at ht
      obtain ⟨k1, k2⟩ := SG.rp.1 ht
      have hnb : t.nb ≤ 200 := by have := ht.lt.1; omega
      by_cases hs : t.sz ≤ 300
      · rw [decide_eq_true (show (t.sz : Int) ≤ 300 by omega)]
        exact rtB_iff.2 ⟨some t, k1, k2, hnb, hs⟩
      · rw [decide_eq_false (show ¬ (t.sz : Int) ≤ 300 by omega), ← Bool.not_eq_true, rtB_iff]
        rintro ⟨o, ho⟩
        cases o with
        | none => exact h0 ho
        | some u =>
          have hu : RP l u := ho
          have h3 : SG l 0 l.length u := SG.rp.2 ⟨hu.1, hu.2.1⟩
          obtain ⟨-, rfl⟩ := SG.uniq ht h3
          exact hs hu.2.2.2
    · rw [hf] at e; omega
  · intro hf
    rw [← Bool.not_eq_true, rtB_iff]
    rintro ⟨o, ho⟩
    cases o with
    | none => exact h0 ho
    | some u =>
      have hu : RP l u := ho
      have h3 : SG l 0 l.length u := SG.rp.2 ⟨hu.1, hu.2.1⟩
      rw [hn] at h3
      exact hf (frs_some h3)

theorem rtB_long {l : List Bg} (h : 200 < l.length) : rtB l = false := by unfold rtB; rw [dc_long h]; rfl

set_option maxRecDepth 100000 in
set_option maxHeartbeats 4000000 in
theorem goodRopeS {w : World} {a : Option Addr} {cap : Nat} {l : List Bg} (h : RIn w a cap l) :
    Calls Tryd.prog 36 #[.agg #[.slice a l.length cap]] w fun e w' => e = .returned (.bool (rtB l)) ∧ Below w.heap.size w w' := by
  have hll := h.len
  have hcl := h.inn.le
  have hcm := h.inn.mx
  unfold maxLen at hcm
  have hb1 : Below w.heap.size w (w.alloc (.cells #[.slice a l.length cap] 41)) := (Below.refl _ _).alloc (Nat.le_refl _) _
  have HB1 := hide hb1
  by_cases h0 : l = []
  · subst h0
    rw [rtB_nil, show ([] : List Bg).length = 0 from rfl]
    clear h hb1
    go_enter Tryd.func36, Tryd.ntmps36
    go_wp2
    go_ret
    exact ⟨rfl, HB1.out⟩
  · obtain ⟨n, hn⟩ : ∃ n, l.length = n + 1 := ⟨l.length - 1, by have := List.length_pos_iff.2 h0; omega⟩
    have hl0 : ((l.length : Int) == 0) = false := by rw [beq_eq_false_iff_ne]; omega
    obtain ⟨g, rfl, hg, hc⟩ := h.inn.ad h0
    by_cases h2 : l.length ≤ 200
    · have e2 : decide ((l.length : Int) ≤ 200) = true := by rw [decide_eq_true_iff]; omega
      obtain ⟨k1, k2⟩ := rtB_some hn (by omega)
      have F := hide (l12First_any l g cap h2 hcl hcm h.txt n (w.alloc (.cells #[.slice (some ⟨g, 0, none⟩) l.length cap] 41)) (by omega) (hc.later hb1 hg) (by simp; omega))
      unfold FsPost at F
      have ew : IntKind.i64.wrap ((l.length : Int) - 1) = (n : Int) := by rw [IntKind.wrap_i64]; omega
      have HK := hide (fun w' (hb : Below w.heap.size w w') => ((hc.later hb hg).bgat n (by omega)).2.2.2.1)
      have hnl : n < l.length := by omega
      have hcr := CellR.new w (.slice (some ⟨g, 0, none⟩) l.length cap)
      have HCR := hide hcr
      obtain ⟨zz, hzz⟩ : ∃ zz, l[n].size = zz := ⟨_, rfl⟩
      rw [hzz] at k1 HK
      have HNN := hide hn
      have K1 := hide k1
      have K2 := hide k2
      obtain ⟨Rb, hRb⟩ : ∃ Rb, rtB l = Rb := ⟨_, rfl⟩
      rw [hRb] at K1 K2 ⊢
      clear h hb1 hc hzz hn hcr k1 k2 hRb
      by_cases hf : frs l n = 0
      · rw [hf] at F
        obtain rfl := K1.out hf
        clear hf K1 K2
        go_enter Tryd.func36, Tryd.ntmps36
        go_wp2_with fail
        refine F.out.mono ?_
        rintro e w2 ⟨rfl, hb2⟩
        have HB2 : Hid (Below w.heap.size w w2) := hide (HB1.out.trans (hb2.mono (by simp)))
        have c3 := HK.out w2 HB2.out
        have cc := (HCR.out.later hb2).cell
        clear hb2
        go_wp2
        go_ret
        exact ⟨rfl, HB2.out⟩
      · have hf' : (frs l n == 0) = false := by rw [beq_eq_false_iff_ne]; exact hf
        obtain rfl := K2.out hf
        obtain ⟨fv, hfv⟩ : ∃ fv, frs l n = fv := ⟨_, rfl⟩
        rw [hfv] at F hf'
        clear hf hfv K1 K2
        go_enter Tryd.func36, Tryd.ntmps36
        go_wp2_with fail
        refine F.out.mono ?_
        rintro e w2 ⟨rfl, hb2⟩
        have HB2 : Hid (Below w.heap.size w w2) := hide (HB1.out.trans (hb2.mono (by simp)))
        clear hb2
        go_wp2
        go_ret
        exact ⟨rfl, HB2.out⟩
    · have e2 : decide ((l.length : Int) ≤ 200) = false := by rw [decide_eq_false_iff_not]; omega
      rw [rtB_long (by omega)]
      clear h hb1 hc hn h2
      go_enter Tryd.func36, Tryd.ntmps36
      go_wp2
      go_ret
      exact ⟨rfl, HB1.out⟩

/-- The boughs of a good rope. -/
theorem rt_pcs {l : List Bg} (h : rtB l = true) : pcsL l = pcO (rtO l) := by
  have e := rt_bo h
  conv => lhs; rw [e]
  exact pcsL_bo _

theorem rt_len {l : List Bg} (h : rtB l = true) : l.length ≤ 200 := by
  by_cases c : l.length ≤ 200
  · exact c
  · rw [rtB_long (by omega)] at h; cases h

end Go.Proofs.YtgacajnljplmiabDoor
