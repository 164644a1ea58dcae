/- The model's CutMarks. -/
import Derived.Test.YtknodkdlphngmaxCutW1
namespace Go.Proofs.Ytknodkdlphngmax
open Go.RowKit
open Doc1

theorem addrC (g j : Nat) : (⟨g, 0, none⟩ : Addr).add j = ⟨g, j, none⟩ := by unfold Addr.add; split <;> simp_all
theorem cellC_new (w : World) (a b c : Value) (t : TypeId) : ∀ j u, [a, b, c][j]? = some u → (w.alloc (.cells #[a, b, c] t)).cell? ((⟨w.heap.size, 0, none⟩ : Addr).add j) = some u := by
  intro j u hu
  rw [addrC]
  unfold World.cell?
  rw [heap_alloc_new]
  match j, hu with
  | 0, hu => simpa using hu
  | 1, hu => simpa using hu
  | 2, hu => simpa using hu
theorem cellC_new2 (w : World) (o : Obj) (a b c : Value) (t : TypeId) : ∀ j u, [a, b, c][j]? = some u → ((w.alloc o).alloc (.cells #[a, b, c] t)).cell? ((⟨w.heap.size + 1, 0, none⟩ : Addr).add j) = some u := by
  have := cellC_new (w.alloc o) a b c t
  rw [World.size_alloc] at this
  exact this
theorem cutL_snoc (l : List Mk) (fr to : Int) (st : ByteArray) {k : Nat} (hk : k < l.length) : cutL (l.take (k + 1)) fr to st = cutL (l.take k) fr to st ++ cut1 fr to st l[k] := by
  unfold cutL
  rw [List.take_succ_eq_append_getElem hk, List.flatMap_append, List.flatMap_singleton]
theorem cutL_len (fr to : Int) (st : ByteArray) : ∀ l : List Mk, (cutL l fr to st).length ≤ 2 * l.length
  | [] => by simp [cutL]
  | m :: l => by
    have := cutL_len fr to st l
    have e : (cut1 fr to st m).length ≤ 2 := by unfold cut1; split <;> (try simp) <;> split <;> split <;> simp
    unfold cutL at *
    rw [List.flatMap_cons, List.length_append, List.length_cons]; omega

set_option maxRecDepth 100000 in
set_option maxHeartbeats 8000000 in
theorem cutS {w : World} {g cap : Nat} {l : List Mk} (size fr to : Int) (st : ByteArray) (hst : st.size ≤ 1048576) (h : MrIn w g cap l) :
    Calls Try.prog 10 #[.slice (some ⟨g, 0, none⟩) l.length cap, .int .i64 size, .int .i64 fr, .int .i64 to, .string st] w (CutPost l size fr to st w) := by
  obtain ⟨i0, hi0, hz0, hz1, hz2⟩ := info_parts Try.infoMk
  have hcp := h.cap
  have hln := h.len
  have G := hide (goodMarksS size h)
  have I := hide (fun w => l5Style_any st w hst)
  have J := hide (fun n lo hi w => l1In_any n lo hi w)
  have H := hide h
  clear h
  cases hg : goodM l size with
  | false =>
    rw [hg] at G
    have HN : Hid (∀ w', Below w.heap.size w w' → CutPost l size fr to st w (.returned (.tuple #[.slice none 0 0, .bool false])) w') := hide (fun w' hb => cut_no (by unfold cutOk; rw [hg]; rfl) hb)
    clear hg
    go_enter Try.func10, Try.ntmps10
    go_wp2_with (first | (go_at_call 27; refine G.out.mono ?_; rintro e w1 ⟨rfl, hb1⟩) | (go_at_call 28; refine (J.out _ _ _ _).mono ?_; rintro e w' ⟨rfl, hw⟩; replace hw := hw.symm; subst hw; first | rw [E1.out] | rw [E2.out]) | (go_at_call 29; refine (I.out _).mono ?_; rintro e w' ⟨rfl, hw⟩; replace hw := hw.symm; subst hw))
    go_ret2
    exact HN.out _ hb1
  | true =>
    rw [hg] at G
    cases h1 : decide (0 ≤ fr ∧ fr ≤ size) with
    | false =>
      have E1 := hide h1
      have E2 := E1
      have HN : Hid (∀ w', Below w.heap.size w w' → CutPost l size fr to st w (.returned (.tuple #[.slice none 0 0, .bool false])) w') := hide (fun w' hb => cut_no (by unfold cutOk; rw [decide_eq_false (show ¬ (0 ≤ fr ∧ fr ≤ to ∧ to ≤ size) by have := of_decide_eq_false h1; omega)]; simp) hb)
      clear hg h1
      go_enter Try.func10, Try.ntmps10
      go_wp2_with (first | (go_at_call 27; refine G.out.mono ?_; rintro e w1 ⟨rfl, hb1⟩) | (go_at_call 28; refine (J.out _ _ _ _).mono ?_; rintro e w' ⟨rfl, hw⟩; replace hw := hw.symm; subst hw; first | rw [E1.out] | rw [E2.out]) | (go_at_call 29; refine (I.out _).mono ?_; rintro e w' ⟨rfl, hw⟩; replace hw := hw.symm; subst hw))
      go_ret2
      exact HN.out _ hb1
    | true =>
      cases h2 : decide (fr ≤ to ∧ to ≤ size) with
      | false =>
        have E1 := hide h1
        have E2 := hide h2
        have HN : Hid (∀ w', Below w.heap.size w w' → CutPost l size fr to st w (.returned (.tuple #[.slice none 0 0, .bool false])) w') := hide (fun w' hb => cut_no (by unfold cutOk; rw [decide_eq_false (show ¬ (0 ≤ fr ∧ fr ≤ to ∧ to ≤ size) by have := of_decide_eq_false h2; omega)]; simp) hb)
        clear hg h1 h2
        go_enter Try.func10, Try.ntmps10
        go_wp2_with (first | (go_at_call 27; refine G.out.mono ?_; rintro e w1 ⟨rfl, hb1⟩) | (go_at_call 28; refine (J.out _ _ _ _).mono ?_; rintro e w' ⟨rfl, hw⟩; replace hw := hw.symm; subst hw; first | rw [E1.out] | rw [E2.out]) | (go_at_call 29; refine (I.out _).mono ?_; rintro e w' ⟨rfl, hw⟩; replace hw := hw.symm; subst hw))
        go_ret2
        exact HN.out _ hb1
      | true =>
          have E1 := hide h1
          have E2 := hide h2
          replace h1 := of_decide_eq_true h1
          replace h2 := of_decide_eq_true h2
          cases hi : isSt st with
          | false =>
            rw [hi] at I
            have HN : Hid (∀ w', Below w.heap.size w w' → CutPost l size fr to st w (.returned (.tuple #[.slice none 0 0, .bool false])) w') := hide (fun w' hb => cut_no (by unfold cutOk; rw [hi]; simp) hb)
            clear hg hi
            go_enter Try.func10, Try.ntmps10
            go_wp2_with (first | (go_at_call 27; refine G.out.mono ?_; rintro e w1 ⟨rfl, hb1⟩) | (go_at_call 28; refine (J.out _ _ _ _).mono ?_; rintro e w' ⟨rfl, hw⟩; replace hw := hw.symm; subst hw; first | rw [E1.out] | rw [E2.out]) | (go_at_call 29; refine (I.out _).mono ?_; rintro e w' ⟨rfl, hw⟩; replace hw := hw.symm; subst hw))
            go_ret2
            exact HN.out _ hb1
          | true =>
            rw [hi] at I
            have HY := hide (show cutOk l size fr to st = true by unfold cutOk; rw [hg, hi, decide_eq_true (show 0 ≤ fr ∧ fr ≤ to ∧ to ≤ size by omega)]; rfl)
            obtain ⟨hz, h40⟩ := goodM_nums hg
            clear hg hi
            go_enter Try.func10, Try.ntmps10
            go_wp2_with (first | (go_at_call 27; refine G.out.mono ?_; rintro e w1 ⟨rfl, hb1⟩) | (go_at_call 28; refine (J.out _ _ _ _).mono ?_; rintro e w' ⟨rfl, hw⟩; replace hw := hw.symm; subst hw; first | rw [E1.out] | rw [E2.out]) | (go_at_call 29; refine (I.out _).mono ?_; rintro e w' ⟨rfl, hw⟩; replace hw := hw.symm; subst hw))
            go_loopw [12, 39] (fun v i wr => ∃ k : Nat, k ≤ l.length ∧ i = .int .i64 k ∧ ∃ v0, v0 = v ∧ Hid (wr.ownsRow w.heap.size 46 3 v0 (cutL (l.take k) fr to st).length (encMr (cutL (l.take k) fr to st))) ∧ Below w.heap.size w wr) (fun _ i _ => l.length - (intOf i).toNat)
            case atStart => exact ⟨0, by omega, rfl, _, rfl, hide (World.ownsRow_nil _ _ _ _), hb1⟩
            case round =>
              obtain ⟨k, hk, rfl, v, hv0, HO, hbel⟩ := hrel
              subst hv0
              by_cases hlt : k < l.length
              · obtain ⟨c0, c1, c2⟩ := (H.out.later hbel).at'.mrat k hlt
                have HSN := hide (cutL_snoc l fr to st hlt)
                have hcl := cutL_len fr to st (l.take k)
                rw [List.length_take] at hcl
                obtain ⟨m, hmm⟩ : ∃ m, m = l[k] := ⟨_, rfl⟩
                obtain ⟨out, hout⟩ : ∃ out, out = cutL (l.take k) fr to st := ⟨_, rfl⟩
                rw [← hout] at HO HSN hcl
                rw [← hmm] at c0 c1 c2 HSN
                have hel := encMr_len out
                clear hmm hout
                obtain ⟨z0', z1', z2'⟩ := cellsE_new wr (.int .i64 m.frm) (.int .i64 m.to) (.string m.style)
                have z0 := z0' 46
                have z1 := z1' 46
                have z2 := z2' 46
                have hown2 := HO.out.alloc (.cells #[.int .i64 m.frm, .int .i64 m.to, .string m.style] 46)
                have hbel2 := hbel.alloc hbel.size (.cells #[.int .i64 m.frm, .int .i64 m.to, .string m.style] 46)
                have hsz2 := hbel2.size
                have hsz3 := hbel.size
                clear z0' z1' z2'
                cases he : m.style.toList == st.toList with
                | false =>
                  have hs2 := hide (show cutL (l.take (k + 1)) fr to st = out ++ [m] by rw [HSN.out, show cut1 fr to st m = [m] from if_pos (.inl he)])
                  go_wp2_with (at_builtin; refine wpList_append_own _ rfl _ _ 24 rfl w.heap.size 46 i0 (.agg #[.int .i64 0, .int .i64 0, .string ⟨#[]⟩]) 3 32 Try.underlying24 hi0 hz0 hz1 hz2 rfl (by decide) _ _ _ rfl (hown2.alloc _) ⟨wr.heap.size + 1, 0, none⟩ 1 1 [.int .i64 m.frm, .int .i64 m.to, .string m.style] rfl rfl (cellC_new2 _ _ _ _ _ _) (by intro u hu; simp at hu; rcases hu with rfl | rfl | rfl <;> rfl) (by unfold maxLen; omega) (by omega) (by simp; omega) ?_; intro v3 w3 hown3 hgrow3 _; have hb3 := below_append hbel2 hown2 hsz2 hgrow3; have A : Hid (w3.ownsRow w.heap.size 46 3 v3 (cutL (l.take (k + 1)) fr to st).length (encMr (cutL (l.take (k + 1)) fr to st))) := hide (by rw [hs2.out, encMr_app, List.length_append]; exact hown3); clear hown3 hgrow3 hown2)
                  refine ⟨⟨k + 1, by omega, by go_num, _, rfl, A, hb3⟩, by simp [intOf]; omega⟩
                | true =>
                  by_cases g1 : m.to ≤ fr
                  · have hs2 := hide (show cutL (l.take (k + 1)) fr to st = out ++ [m] by rw [HSN.out, show cut1 fr to st m = [m] from if_pos (.inr (.inl g1))])
                    go_wp2_with (at_builtin; refine wpList_append_own _ rfl _ _ 24 rfl w.heap.size 46 i0 (.agg #[.int .i64 0, .int .i64 0, .string ⟨#[]⟩]) 3 32 Try.underlying24 hi0 hz0 hz1 hz2 rfl (by decide) _ _ _ rfl (hown2.alloc _) ⟨wr.heap.size + 1, 0, none⟩ 1 1 [.int .i64 m.frm, .int .i64 m.to, .string m.style] rfl rfl (cellC_new2 _ _ _ _ _ _) (by intro u hu; simp at hu; rcases hu with rfl | rfl | rfl <;> rfl) (by unfold maxLen; omega) (by omega) (by simp; omega) ?_; intro v3 w3 hown3 hgrow3 _; have hb3 := below_append hbel2 hown2 hsz2 hgrow3; have A : Hid (w3.ownsRow w.heap.size 46 3 v3 (cutL (l.take (k + 1)) fr to st).length (encMr (cutL (l.take (k + 1)) fr to st))) := hide (by rw [hs2.out, encMr_app, List.length_append]; exact hown3); clear hown3 hgrow3 hown2)
                    refine ⟨⟨k + 1, by omega, by go_num, _, rfl, A, hb3⟩, by simp [intOf]; omega⟩
                  · by_cases g2 : to ≤ m.frm
                    · have hs2 := hide (show cutL (l.take (k + 1)) fr to st = out ++ [m] by rw [HSN.out, show cut1 fr to st m = [m] from if_pos (.inr (.inr (.inl g2)))])
                      go_wp2_with (at_builtin; refine wpList_append_own _ rfl _ _ 24 rfl w.heap.size 46 i0 (.agg #[.int .i64 0, .int .i64 0, .string ⟨#[]⟩]) 3 32 Try.underlying24 hi0 hz0 hz1 hz2 rfl (by decide) _ _ _ rfl (hown2.alloc _) ⟨wr.heap.size + 1, 0, none⟩ 1 1 [.int .i64 m.frm, .int .i64 m.to, .string m.style] rfl rfl (cellC_new2 _ _ _ _ _ _) (by intro u hu; simp at hu; rcases hu with rfl | rfl | rfl <;> rfl) (by unfold maxLen; omega) (by omega) (by simp; omega) ?_; intro v3 w3 hown3 hgrow3 _; have hb3 := below_append hbel2 hown2 hsz2 hgrow3; have A : Hid (w3.ownsRow w.heap.size 46 3 v3 (cutL (l.take (k + 1)) fr to st).length (encMr (cutL (l.take (k + 1)) fr to st))) := hide (by rw [hs2.out, encMr_app, List.length_append]; exact hown3); clear hown3 hgrow3 hown2)
                      refine ⟨⟨k + 1, by omega, by go_num, _, rfl, A, hb3⟩, by simp [intOf]; omega⟩
                    · by_cases g3 : fr = to
                      · have g3' : (fr == to) = true := by simpa using g3
                        have HG3 := hide g3
                        clear g3
                        have hs2 := hide (show cutL (l.take (k + 1)) fr to st = out ++ [m] by rw [HSN.out, show cut1 fr to st m = [m] from if_pos (.inr (.inr (.inr HG3.out)))])
                        go_wp2_with (at_builtin; refine wpList_append_own _ rfl _ _ 24 rfl w.heap.size 46 i0 (.agg #[.int .i64 0, .int .i64 0, .string ⟨#[]⟩]) 3 32 Try.underlying24 hi0 hz0 hz1 hz2 rfl (by decide) _ _ _ rfl (hown2.alloc _) ⟨wr.heap.size + 1, 0, none⟩ 1 1 [.int .i64 m.frm, .int .i64 m.to, .string m.style] rfl rfl (cellC_new2 _ _ _ _ _ _) (by intro u hu; simp at hu; rcases hu with rfl | rfl | rfl <;> rfl) (by unfold maxLen; omega) (by omega) (by simp; omega) ?_; intro v3 w3 hown3 hgrow3 _; have hb3 := below_append hbel2 hown2 hsz2 hgrow3; have A : Hid (w3.ownsRow w.heap.size 46 3 v3 (cutL (l.take (k + 1)) fr to st).length (encMr (cutL (l.take (k + 1)) fr to st))) := hide (by rw [hs2.out, encMr_app, List.length_append]; exact hown3); clear hown3 hgrow3 hown2)
                        refine ⟨⟨k + 1, by omega, by go_num, _, rfl, A, hb3⟩, by simp [intOf]; omega⟩
                      · have g3' : (fr == to) = false := by simpa using g3
                        by_cases g4 : m.frm < fr
                        · by_cases g5 : to < m.to
                          · have hs2 := hide (show cutL (l.take (k + 1)) fr to st = out ++ [⟨m.frm, fr, st⟩] ++ [⟨to, m.to, st⟩] by rw [HSN.out, show cut1 fr to st m = [⟨m.frm, fr, st⟩, ⟨to, m.to, st⟩] from (by unfold cut1; rw [if_neg (by rw [he]; intro c; rcases c with c | c | c | c; cases c; omega; omega; omega)]; simp [g4, g5]), List.append_assoc]; rfl)
                            go_wp2_with (first | (at_builtin; refine wpList_append_own _ rfl _ _ 24 rfl w.heap.size 46 i0 (.agg #[.int .i64 0, .int .i64 0, .string ⟨#[]⟩]) 3 32 Try.underlying24 hi0 hz0 hz1 hz2 rfl (by decide) _ _ _ rfl (hown2.alloc _) ⟨wr.heap.size + 1, 0, none⟩ 1 1 [.int .i64 m.frm, .int .i64 fr, .string st] rfl rfl (cellC_new2 _ _ _ _ _ _) (by intro u hu; simp at hu; rcases hu with rfl | rfl | rfl <;> rfl) (by unfold maxLen; omega) (by omega) (by simp; omega) ?_; intro v3 w3 hown3 hgrow3 _; have hb3 := below_append hbel2 hown2 hsz2 hgrow3; have hsz4 := hb3.size; have b1 : w3.cell? ⟨wr.heap.size, 1, none⟩ = some (.int .i64 m.to) := (World.cell?_of_block (hgrow3.block wr.heap.size (by simp; omega) (fun c => absurd (HO.out.lt _ c.symm).2 (by omega)))).trans ((World.cell?_of_block (Below.heap_alloc _ _ _ (by simp))).trans z1); have hown4 : w3.ownsRow w.heap.size 46 3 v3 (out.length + 1) (encMr (out ++ [⟨m.frm, fr, st⟩])) := (by rw [encMr_app]; exact hown3); have hel4 := encMr_len (out ++ [⟨m.frm, fr, st⟩]); clear hown3 hgrow3 hown2 z0 z1 z2) | (at_builtin; refine wpList_append_own _ rfl _ _ 24 rfl w.heap.size 46 i0 (.agg #[.int .i64 0, .int .i64 0, .string ⟨#[]⟩]) 3 32 Try.underlying24 hi0 hz0 hz1 hz2 rfl (by decide) _ _ _ rfl (hown4.alloc _) ⟨w3.heap.size, 0, none⟩ 1 1 [.int .i64 to, .int .i64 m.to, .string st] rfl rfl (cellC_new _ _ _ _ _) (by intro u hu; simp at hu; rcases hu with rfl | rfl | rfl <;> rfl) (by unfold maxLen; omega) (by omega) (by simp; omega) ?_; intro v5 w5 hown5 hgrow5 _; have hb5 := below_append hb3 hown4 hsz4 hgrow5; have A : Hid (w5.ownsRow w.heap.size 46 3 v5 (cutL (l.take (k + 1)) fr to st).length (encMr (cutL (l.take (k + 1)) fr to st))) := hide (by rw [hs2.out, encMr_app, List.length_append, List.length_append]; exact hown5); clear hown5 hgrow5 hown4))
                            refine ⟨⟨k + 1, by omega, by go_num, _, rfl, A, hb5⟩, by simp [intOf]; omega⟩
                          · have hs2 := hide (show cutL (l.take (k + 1)) fr to st = out ++ [⟨m.frm, fr, st⟩] by rw [HSN.out, show cut1 fr to st m = [⟨m.frm, fr, st⟩] from (by unfold cut1; rw [if_neg (by rw [he]; intro c; rcases c with c | c | c | c; cases c; omega; omega; omega)]; simp [g4, g5])])
                            go_wp2_with (at_builtin; refine wpList_append_own _ rfl _ _ 24 rfl w.heap.size 46 i0 (.agg #[.int .i64 0, .int .i64 0, .string ⟨#[]⟩]) 3 32 Try.underlying24 hi0 hz0 hz1 hz2 rfl (by decide) _ _ _ rfl (hown2.alloc _) ⟨wr.heap.size + 1, 0, none⟩ 1 1 [.int .i64 m.frm, .int .i64 fr, .string st] rfl rfl (cellC_new2 _ _ _ _ _ _) (by intro u hu; simp at hu; rcases hu with rfl | rfl | rfl <;> rfl) (by unfold maxLen; omega) (by omega) (by simp; omega) ?_; intro v3 w3 hown3 hgrow3 _; have hb3 := below_append hbel2 hown2 hsz2 hgrow3; have b1 : w3.cell? ⟨wr.heap.size, 1, none⟩ = some (.int .i64 m.to) := (World.cell?_of_block (hgrow3.block wr.heap.size (by simp; omega) (fun c => absurd (HO.out.lt _ c.symm).2 (by omega)))).trans ((World.cell?_of_block (Below.heap_alloc _ _ _ (by simp))).trans z1); have A : Hid (w3.ownsRow w.heap.size 46 3 v3 (cutL (l.take (k + 1)) fr to st).length (encMr (cutL (l.take (k + 1)) fr to st))) := hide (by rw [hs2.out, encMr_app, List.length_append]; exact hown3); clear hown3 hgrow3 hown2)
                            refine ⟨⟨k + 1, by omega, by go_num, _, rfl, A, hb3⟩, by simp [intOf]; omega⟩
                        · by_cases g5 : to < m.to
                          · have hs2 := hide (show cutL (l.take (k + 1)) fr to st = out ++ [⟨to, m.to, st⟩] by rw [HSN.out, show cut1 fr to st m = [⟨to, m.to, st⟩] from (by unfold cut1; rw [if_neg (by rw [he]; intro c; rcases c with c | c | c | c; cases c; omega; omega; omega)]; simp [g4, g5])])
                            go_wp2_with (at_builtin; refine wpList_append_own _ rfl _ _ 24 rfl w.heap.size 46 i0 (.agg #[.int .i64 0, .int .i64 0, .string ⟨#[]⟩]) 3 32 Try.underlying24 hi0 hz0 hz1 hz2 rfl (by decide) _ _ _ rfl (hown2.alloc _) ⟨wr.heap.size + 1, 0, none⟩ 1 1 [.int .i64 to, .int .i64 m.to, .string st] rfl rfl (cellC_new2 _ _ _ _ _ _) (by intro u hu; simp at hu; rcases hu with rfl | rfl | rfl <;> rfl) (by unfold maxLen; omega) (by omega) (by simp; omega) ?_; intro v3 w3 hown3 hgrow3 _; have hb3 := below_append hbel2 hown2 hsz2 hgrow3; have A : Hid (w3.ownsRow w.heap.size 46 3 v3 (cutL (l.take (k + 1)) fr to st).length (encMr (cutL (l.take (k + 1)) fr to st))) := hide (by rw [hs2.out, encMr_app, List.length_append]; exact hown3); clear hown3 hgrow3 hown2)
                            refine ⟨⟨k + 1, by omega, by go_num, _, rfl, A, hb3⟩, by simp [intOf]; omega⟩
                          · have hs2 := hide (show cutL (l.take (k + 1)) fr to st = out by rw [HSN.out, show cut1 fr to st m = [] from (by unfold cut1; rw [if_neg (by rw [he]; intro c; rcases c with c | c | c | c; cases c; omega; omega; omega)]; simp [g4, g5]), List.append_nil])
                            have A : Hid ((wr.alloc (.cells #[.int .i64 m.frm, .int .i64 m.to, .string m.style] 46)).ownsRow w.heap.size 46 3 v (cutL (l.take (k + 1)) fr to st).length (encMr (cutL (l.take (k + 1)) fr to st))) := hide (by rw [hs2.out]; exact hown2)
                            have HB2 := hide hbel2
                            clear hown2
                            go_wp2
                            refine ⟨⟨k + 1, by omega, by go_num, _, rfl, A, HB2.out⟩, by simp [intOf]; omega⟩
              · obtain rfl : k = l.length := by omega
                rw [List.take_length] at HO
                have O5 := HO.out
                have HBL := hide hbel
                rcases O5.2 with ⟨hv, hn⟩ | ⟨r, cp, cur, hv, hrb, hh, k1, k2, k3, k4⟩
                · subst hv
                  have Hn := hide hn
                  clear O5 hn
                  go_wp2
                  go_ret2
                  refine cut_yes HY.out HBL.out (Nat.le_refl _) ?_
                  unfold MkPost
                  rw [if_neg (by rw [Hn.out]; omega)]
                  exact ⟨_, rfl, HO.out⟩
                · subst hv
                  clear O5 k4 hh k3
                  by_cases h5 : 40 < (cutL l fr to st).length
                  · have h5' : (40 : Int) < ((cutL l fr to st).length : Int) := by omega
                    have H5 := hide h5
                    clear h5
                    go_wp2
                    go_ret2
                    refine cut_yes HY.out HBL.out (Nat.le_refl _) ?_
                    unfold MkPost
                    rw [if_pos H5.out]
                    rfl
                  · have h5' : ((cutL l fr to st).length : Int) ≤ 40 := by omega
                    have H5 := hide h5
                    clear h5
                    go_wp2
                    go_ret2
                    refine cut_yes HY.out HBL.out (Nat.le_refl _) ?_
                    unfold MkPost
                    rw [if_neg H5.out]
                    exact ⟨_, rfl, HO.out⟩
end Go.Proofs.Ytknodkdlphngmax
