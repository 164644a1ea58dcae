/- The model's AddMark. -/
import Derived.Test.YtknodkdlphngmawAddS1
namespace Go.Proofs.Ytknodkdlphngmaw
open Go.RowKit
open Doc1

theorem addL_ne : ∀ (l : List Mk) (m : Mk), addL l m ≠ []
  | [], m => by simp [addL]
  | x :: l, m => by
    rw [addL]
    split
    · simp
    · split
      · simp
      · exact addL_ne l _
theorem mr_shape {w : World} {B : Nat} {v : Value} {L : List Mk} (h : MrOwn w B v L) (hL : L ≠ []) : ∃ r cp, v = .slice (some r) L.length cp := by
  rcases h.2 with ⟨hv, hn⟩ | ⟨r, cp, cur, hv, hrb, hh, k1, k2, k3, k4⟩
  · exact absurd (List.length_eq_zero_iff.1 hn) hL
  · exact ⟨_, _, hv⟩

set_option maxRecDepth 100000 in
set_option maxHeartbeats 8000000 in
theorem addS {w : World} {g cap : Nat} {l : List Mk} (size : Int) (m : Mk) (hst : m.style.size ≤ 1048576) (h : MrIn w g cap l) :
    Calls Try.prog 12 #[.slice (some ⟨g, 0, none⟩) l.length cap, .int .i64 size, .agg #[.int .i64 m.frm, .int .i64 m.to, .string m.style]] w (RsPost (goodM l size && mkOk size m) (addL l m) w) := by
  have hcp := h.cap
  have hln := h.len
  obtain ⟨y0, y1, y2⟩ := cellsE_new w (.int .i64 m.frm) (.int .i64 m.to) (.string m.style)
  have z0 := y0 34
  have z1 := y1 34
  have z2 := y2 34
  have hb0 : Below w.heap.size w (w.alloc (.cells #[.int .i64 m.frm, .int .i64 m.to, .string m.style] 34)) := (Below.refl _ _).alloc (Nat.le_refl _) _
  have hs0 : (w.alloc (.cells #[.int .i64 m.frm, .int .i64 m.to, .string m.style] 34)).heap.size = w.heap.size + 1 := by simp
  have G := hide (goodMarksS size (h.later hb0))
  have I := fun w => l5Mark_any m size w hst
  unfold mrV at I
  replace I := hide I
  have H := hide h
  have HB0 := hide hb0
  clear h y0 y1 y2 hb0
  cases hg : goodM l size with
  | false =>
    rw [hg] at G
    have HN : Hid (∀ w', Below w.heap.size w w' → RsPost (false && mkOk size m) (addL l m) w (.returned (.tuple #[.slice none 0 0, .bool false])) w') := hide (fun w' hb => rs_no rfl hb)
    clear hg
    go_enter Try.func12, Try.ntmps12
    go_wp2_with (go_at_call 7; refine G.out.mono ?_; rintro e w1 ⟨rfl, hb1⟩)
    go_ret2
    exact HN.out _ (HB0.out.trans (hb1.mono (by omega)))
  | true =>
    rw [hg] at G
    cases hm : mkOk size m with
    | false =>
      rw [hm] at I
      have HN : Hid (∀ w', Below w.heap.size w w' → RsPost (true && false) (addL l m) w (.returned (.tuple #[.slice none 0 0, .bool false])) w') := hide (fun w' hb => rs_no rfl hb)
      clear hg hm
      go_enter Try.func12, Try.ntmps12
      go_wp2_with (first | (go_at_call 7; refine G.out.mono ?_; rintro e w1 ⟨rfl, hb1⟩; have x1 := hb1.block w.heap.size (by omega); have b0 := (World.cell?_of_block (a := ⟨w.heap.size, 0, none⟩) x1).trans z0; have b1 := (World.cell?_of_block (a := ⟨w.heap.size, 1, none⟩) x1).trans z1; have b2 := (World.cell?_of_block (a := ⟨w.heap.size, 2, none⟩) x1).trans z2; clear x1 z0 z1 z2) | (go_at_call 22; refine (I.out _).mono ?_; rintro e w2 ⟨rfl, hb2⟩))
      go_ret2
      have hs1 := hb1.size
      exact HN.out _ (HB0.out.trans ((hb1.trans (hb2.mono hs1)).mono (by omega)))
    | true =>
      rw [hm] at I
      obtain ⟨hpw, hok⟩ := good_pw hg
      have hlts : ∀ x ∈ l, x.frm < x.to := fun x hx => (mkOk_lt (hok x hx)).1
      have hml := (mkOk_lt hm).1
      obtain ⟨hz, h40⟩ := goodM_nums hg
      have L5 := hide (fun w1 (h1 : MrIn w1 g cap l) => l5Add_any m hst hml h1 hpw hlts)
      have hal := addL_len l m
      clear hg hm hpw hok hlts hml
      by_cases h5 : 40 < (addL l m).length
      · have h5' : (40 : Int) < ((addL l m).length : Int) := by omega
        have H5 := hide h5
        clear h5
        go_enter Try.func12, Try.ntmps12
        go_wp2_with (first | (go_at_call 7; refine G.out.mono ?_; rintro e w1 ⟨rfl, hb1⟩; have x1 := hb1.block w.heap.size (by omega); have b0 := (World.cell?_of_block (a := ⟨w.heap.size, 0, none⟩) x1).trans z0; have b1 := (World.cell?_of_block (a := ⟨w.heap.size, 1, none⟩) x1).trans z1; have b2 := (World.cell?_of_block (a := ⟨w.heap.size, 2, none⟩) x1).trans z2; clear x1 z0 z1 z2; have hs1 := hb1.size) | (go_at_call 22; refine (I.out _).mono ?_; rintro e w2 ⟨rfl, hb2⟩; have hs2 := hb2.size; have x2 := hb2.block w.heap.size (by omega); have d0 := (World.cell?_of_block (a := ⟨w.heap.size, 0, none⟩) x2).trans b0; have d1 := (World.cell?_of_block (a := ⟨w.heap.size, 1, none⟩) x2).trans b1; have d2 := (World.cell?_of_block (a := ⟨w.heap.size, 2, none⟩) x2).trans b2; clear x2 b0 b1 b2; have HB2 := hide (HB0.out.trans ((hb1.trans (hb2.mono hs1)).mono (by omega))); have L := hide (L5.out w2 (H.out.later HB2.out))) | (go_at_call 27; refine L.out.mono ?_; rintro e w3 ⟨v3, rfl, hown3, hb3⟩; have HOW := hide hown3; have HB3 := hide hb3; clear hown3 hb3 d0 d1 d2; obtain ⟨r, cp, hv⟩ := mr_shape HOW.out (addL_ne l m); subst hv))
        go_ret2
        have hs2' := HB2.out.size
        refine rs_yes rfl (HB2.out.trans (HB3.out.mono hs2')) hs2' ?_
        unfold MkPost
        rw [if_pos H5.out]
        rfl
      · have h5' : ((addL l m).length : Int) ≤ 40 := by omega
        have H5 := hide h5
        clear h5
        go_enter Try.func12, Try.ntmps12
        go_wp2_with (first | (go_at_call 7; refine G.out.mono ?_; rintro e w1 ⟨rfl, hb1⟩; have x1 := hb1.block w.heap.size (by omega); have b0 := (World.cell?_of_block (a := ⟨w.heap.size, 0, none⟩) x1).trans z0; have b1 := (World.cell?_of_block (a := ⟨w.heap.size, 1, none⟩) x1).trans z1; have b2 := (World.cell?_of_block (a := ⟨w.heap.size, 2, none⟩) x1).trans z2; clear x1 z0 z1 z2; have hs1 := hb1.size) | (go_at_call 22; refine (I.out _).mono ?_; rintro e w2 ⟨rfl, hb2⟩; have hs2 := hb2.size; have x2 := hb2.block w.heap.size (by omega); have d0 := (World.cell?_of_block (a := ⟨w.heap.size, 0, none⟩) x2).trans b0; have d1 := (World.cell?_of_block (a := ⟨w.heap.size, 1, none⟩) x2).trans b1; have d2 := (World.cell?_of_block (a := ⟨w.heap.size, 2, none⟩) x2).trans b2; clear x2 b0 b1 b2; have HB2 := hide (HB0.out.trans ((hb1.trans (hb2.mono hs1)).mono (by omega))); have L := hide (L5.out w2 (H.out.later HB2.out))) | (go_at_call 27; refine L.out.mono ?_; rintro e w3 ⟨v3, rfl, hown3, hb3⟩; have HOW := hide hown3; have HB3 := hide hb3; clear hown3 hb3 d0 d1 d2; obtain ⟨r, cp, hv⟩ := mr_shape HOW.out (addL_ne l m); subst hv))
        go_ret2
        have hs2' := HB2.out.size
        refine rs_yes rfl (HB2.out.trans (HB3.out.mono hs2')) hs2' ?_
        unfold MkPost
        rw [if_neg H5.out]
        exact ⟨_, rfl, HOW.out⟩
end Go.Proofs.Ytknodkdlphngmaw
