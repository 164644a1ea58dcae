/- Good histories, of both. -/
import Derived.Test.YtpeconmdmddkfaaDoorHist3
set_option linter.unusedVariables false
namespace Go.Proofs.YtpeconmdmddkfaaDoor
open Go.RowKit
open Doc1

set_option maxRecDepth 100000 in
set_option maxHeartbeats 4000000 in
theorem goodHS {lo hi : Nat} {w : World} {vu vr : Value} {t : ByteArray} {u r : List (List Pt)} (h : HX lo hi w vu vr u r) (ht : t.size ≤ 1048576) (mu : SmC u) (mr : SmC r) :
    Calls Tryd.prog 15 #[.agg #[.string t, vu, vr]] w fun e w' => e = .returned (.bool (goodH t u r)) ∧ Below w.heap.size w w' := by
  obtain ⟨S, T, h1, h2, -, h4⟩ := h
  have G : Hid (∀ w', Below w.heap.size w w' → _) := hide (fun w' (hb : Below w.heap.size w w') => goodTextS_any t w' ht)
  have FU : Hid (good t.data.toList = true → ∀ w', Below w.heap.size w w' → Calls Tryd.prog 55 #[vu, .string t] w' fun e w'' => e = .returned (.bool (fitT u t)) ∧ Below w'.heap.size w' w'') := hide (fun hg w' hb => fitS (s := t) (h1.later hb) mu hg)
  have FR : Hid (good t.data.toList = true → ∀ w', Below w.heap.size w w' → Calls Tryd.prog 55 #[vr, .string t] w' fun e w'' => e = .returned (.bool (fitT r t)) ∧ Below w'.heap.size w' w'') := hide (fun hg w' hb => fitS (s := t) (h2.later hb) mr hg)
  obtain ⟨a1, c1, e1⟩ := h1.shp
  obtain ⟨a2, c2, e2⟩ := h2.shp
  subst e1 e2
  obtain ⟨w1, hw1⟩ : ∃ w1, w1 = w.alloc (.cells #[.string t, .slice a1 u.length c1, .slice a2 r.length c2] 24) := ⟨_, rfl⟩
  have k1 : CB w1 w.heap.size #[.string t, .slice a1 u.length c1, .slice a2 r.length c2] := by rw [hw1]; exact CB.new _ _ _
  have k3 : Below w.heap.size w w1 := by rw [hw1]; exact (Below.refl _ _).alloc (Nat.le_refl _) _
  have HK : Hid (∀ w', Below w1.heap.size w1 w' → w'.cell? ⟨w.heap.size, 0, none⟩ = some (.string t) ∧ w'.cell? ⟨w.heap.size, 1, none⟩ = some (.slice a1 u.length c1) ∧ w'.cell? ⟨w.heap.size, 2, none⟩ = some (.slice a2 r.length c2)) := hide (fun w' hb => ⟨(k1.later hb).cell 0 rfl, (k1.later hb).cell 1 rfl, (k1.later hb).cell 2 rfl⟩)
  have HB := hide k3
  have GG := hide (G.out w1 k3)
  unfold goodH
  clear h1 h2 h4 k1 k3 mu mr G ht
  cases hg : good t.data.toList with
  | false =>
    rw [hg] at GG
    clear FU FR hg
    go_enter Tryd.func15, Tryd.ntmps15
    go_wp2_with fail
    rw [← hw1]
    clear hw1
    refine GG.out.mono ?_
    rintro e w2 ⟨rfl, hw2⟩
    subst hw2
    go_wp2
    go_ret
    exact ⟨rfl, HB.out⟩
  | true =>
    rw [hg] at GG
    have FU1 := hide (FU.out hg w1 HB.out)
    have FR1 := hide (FR.out hg)
    obtain ⟨q0, q1, q2⟩ := HK.out w1 (Below.refl _ _)
    clear FU FR hg
    cases hu : fitT u t with
    | false =>
      rw [hu] at FU1
      clear hu FR1
      go_enter Tryd.func15, Tryd.ntmps15
      go_wp2_with fail
      rw [← hw1]
      clear hw1
      refine GG.out.mono ?_
      rintro e w2 ⟨rfl, hw2⟩
      subst hw2
      go_wp2_with fail
      refine FU1.out.mono ?_
      rintro e w3 ⟨rfl, hb3⟩
      have HB3 := hide (HB.out.trans (hb3.mono HB.out.size))
      clear hb3 q0 q1 q2
      go_wp2
      go_ret
      exact ⟨rfl, HB3.out⟩
    | true =>
      rw [hu] at FU1
      obtain ⟨B, hBq⟩ : ∃ B, fitT r t = B := ⟨_, rfl⟩
      rw [hBq] at FR1 ⊢
      clear hu hBq
      go_enter Tryd.func15, Tryd.ntmps15
      go_wp2_with fail
      rw [← hw1]
      clear hw1
      refine GG.out.mono ?_
      rintro e w2 ⟨rfl, hw2⟩
      subst hw2
      go_wp2_with fail
      refine FU1.out.mono ?_
      rintro e w3 ⟨rfl, hb3⟩
      have HB3 := hide (HB.out.trans (hb3.mono HB.out.size))
      have FR2 := hide (FR1.out w3 HB3.out)
      obtain ⟨p0, p1, p2⟩ := HK.out w3 hb3
      clear hb3 q0 q1 q2
      go_wp2_with fail
      refine FR2.out.mono ?_
      rintro e w4 ⟨rfl, hb4⟩
      have HB4 := hide (HB3.out.trans (hb4.mono HB3.out.size))
      clear hb4 p0 p1 p2
      go_wp2
      go_ret
      exact ⟨by simp, HB4.out⟩

set_option maxRecDepth 100000 in
set_option maxHeartbeats 4000000 in
theorem goodHI {lo hi : Nat} {w : World} {vu vr : Value} {t : ByteArray} {u r : List (List Pt)} (h : HX lo hi w vu vr u r) (ht : t.size ≤ 1048576) (mu : SmC u) (mr : SmC r) (hT : Tab w) (hlo : 0 < lo) :
    Calls Tryd.prog 17 #[.agg #[.string t, vu, vr]] w fun e w' => e = .returned (.bool (goodH t u r)) ∧ Below w.heap.size w w' := by
  obtain ⟨S, T, h1, h2, -, h4⟩ := h
  have G : Hid (∀ w', Below w.heap.size w w' → _) := hide (fun w' (hb : Below w.heap.size w w') => goodTextI_any t w' ht (hT.below hb))
  have FU : Hid (good t.data.toList = true → ∀ w', Below w.heap.size w w' → Calls Tryd.prog 57 #[vu, .string t] w' fun e w'' => e = .returned (.bool (fitT u t)) ∧ Below w'.heap.size w' w'') := hide (fun hg w' hb => fitI (s := t) (h1.later hb) mu hg (hT.below hb) (fun y hy c => by have := h4 y (.inl hy); omega))
  have FR : Hid (good t.data.toList = true → ∀ w', Below w.heap.size w w' → Calls Tryd.prog 57 #[vr, .string t] w' fun e w'' => e = .returned (.bool (fitT r t)) ∧ Below w'.heap.size w' w'') := hide (fun hg w' hb => fitI (s := t) (h2.later hb) mr hg (hT.below hb) (fun y hy c => by have := h4 y (.inr hy); omega))
  obtain ⟨a1, c1, e1⟩ := h1.shp
  obtain ⟨a2, c2, e2⟩ := h2.shp
  subst e1 e2
  obtain ⟨w1, hw1⟩ : ∃ w1, w1 = w.alloc (.cells #[.string t, .slice a1 u.length c1, .slice a2 r.length c2] 24) := ⟨_, rfl⟩
  have k1 : CB w1 w.heap.size #[.string t, .slice a1 u.length c1, .slice a2 r.length c2] := by rw [hw1]; exact CB.new _ _ _
  have k3 : Below w.heap.size w w1 := by rw [hw1]; exact (Below.refl _ _).alloc (Nat.le_refl _) _
  have HK : Hid (∀ w', Below w1.heap.size w1 w' → w'.cell? ⟨w.heap.size, 0, none⟩ = some (.string t) ∧ w'.cell? ⟨w.heap.size, 1, none⟩ = some (.slice a1 u.length c1) ∧ w'.cell? ⟨w.heap.size, 2, none⟩ = some (.slice a2 r.length c2)) := hide (fun w' hb => ⟨(k1.later hb).cell 0 rfl, (k1.later hb).cell 1 rfl, (k1.later hb).cell 2 rfl⟩)
  have HB := hide k3
  have GG := hide (G.out w1 k3)
  unfold goodH
  clear h1 h2 h4 k1 k3 mu mr G ht hT hlo
  cases hg : good t.data.toList with
  | false =>
    rw [hg] at GG
    clear FU FR hg
    go_enter Tryd.func17, Tryd.ntmps17
    go_wp2_with fail
    rw [← hw1]
    clear hw1
    refine GG.out.mono ?_
    rintro e w2 ⟨rfl, hw2⟩
    subst hw2
    go_wp2
    go_ret
    exact ⟨rfl, HB.out⟩
  | true =>
    rw [hg] at GG
    have FU1 := hide (FU.out hg w1 HB.out)
    have FR1 := hide (FR.out hg)
    obtain ⟨q0, q1, q2⟩ := HK.out w1 (Below.refl _ _)
    clear FU FR hg
    cases hu : fitT u t with
    | false =>
      rw [hu] at FU1
      clear hu FR1
      go_enter Tryd.func17, Tryd.ntmps17
      go_wp2_with fail
      rw [← hw1]
      clear hw1
      refine GG.out.mono ?_
      rintro e w2 ⟨rfl, hw2⟩
      subst hw2
      go_wp2_with fail
      refine FU1.out.mono ?_
      rintro e w3 ⟨rfl, hb3⟩
      have HB3 := hide (HB.out.trans (hb3.mono HB.out.size))
      clear hb3 q0 q1 q2
      go_wp2
      go_ret
      exact ⟨rfl, HB3.out⟩
    | true =>
      rw [hu] at FU1
      obtain ⟨B, hBq⟩ : ∃ B, fitT r t = B := ⟨_, rfl⟩
      rw [hBq] at FR1 ⊢
      clear hu hBq
      go_enter Tryd.func17, Tryd.ntmps17
      go_wp2_with fail
      rw [← hw1]
      clear hw1
      refine GG.out.mono ?_
      rintro e w2 ⟨rfl, hw2⟩
      subst hw2
      go_wp2_with fail
      refine FU1.out.mono ?_
      rintro e w3 ⟨rfl, hb3⟩
      have HB3 := hide (HB.out.trans (hb3.mono HB.out.size))
      have FR2 := hide (FR1.out w3 HB3.out)
      obtain ⟨p0, p1, p2⟩ := HK.out w3 hb3
      clear hb3 q0 q1 q2
      go_wp2_with fail
      refine FR2.out.mono ?_
      rintro e w4 ⟨rfl, hb4⟩
      have HB4 := hide (HB3.out.trans (hb4.mono HB3.out.size))
      clear hb4 p0 p1 p2
      go_wp2
      go_ret
      exact ⟨by simp, HB4.out⟩

end Go.Proofs.YtpeconmdmddkfaaDoor
