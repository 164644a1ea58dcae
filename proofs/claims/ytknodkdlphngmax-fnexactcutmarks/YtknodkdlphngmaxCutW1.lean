/- The program's CutMarks. -/
import Derived.Test.YtknodkdlphngmaxHeapW9
import Derived.Test.YtknodkdlphngmaxMarkW2
namespace Go.Proofs.Ytknodkdlphngmax
open Go.RowKit
open Doc1

def cutOk (l : List Mk) (size fr to : Int) (st : ByteArray) : Bool := goodM l size && (decide (0 ≤ fr ∧ fr ≤ to ∧ to ≤ size) && isSt st)
/-- Both answer so. -/
def cutT (l : List Mk) (size fr to : Int) (st : ByteArray) : List Mk := if cutOk l size fr to st = true ∧ (cutL l fr to st).length ≤ 40 then cutL l fr to st else []
def cutB (l : List Mk) (size fr to : Int) (st : ByteArray) : Bool := cutOk l size fr to st && decide ((cutL l fr to st).length ≤ 40)
def CutPost (l : List Mk) (size fr to : Int) (st : ByteArray) (w : World) (e : Ending) (w' : World) : Prop := ∃ v, e = .returned (.tuple #[v, .bool (cutB l size fr to st)]) ∧ MrOwn w' w.heap.size v (cutT l size fr to st) ∧ Below w.heap.size w w'
theorem mk_form {w w' : World} {ms : List Mk} {e : Ending} (h : MkPost w ms e w') : ∃ v b, e = .returned (.tuple #[v, .bool b]) := by
  unfold MkPost at h
  split at h
  · exact ⟨_, _, h⟩
  · obtain ⟨v, h, _⟩ := h; exact ⟨_, _, h⟩
theorem goodM_nums {l : List Mk} {size : Int} (h : goodM l size = true) : size ≤ 300 ∧ l.length ≤ 40 := by
  unfold goodM at h
  simp only [Bool.and_eq_true, decide_eq_true_eq] at h
  exact ⟨h.1.2, h.2.1⟩
theorem cut_no {l : List Mk} {size fr to : Int} {st : ByteArray} {w w' : World} (h : cutOk l size fr to st = false) (hb : Below w.heap.size w w') : CutPost l size fr to st w (.returned (.tuple #[.slice none 0 0, .bool false])) w' := by
  refine ⟨.slice none 0 0, by unfold cutB; rw [h]; rfl, ?_, hb⟩
  unfold cutT; rw [if_neg (by rw [h]; simp)]; exact World.ownsRow_nil _ _ _ _
theorem cut_yes {l : List Mk} {size fr to : Int} {st : ByteArray} {w wm w' : World} {e : Ending} (h : cutOk l size fr to st = true) (hb : Below w.heap.size w w') (hw : w.heap.size ≤ wm.heap.size) (hp : MkPost wm (cutL l fr to st) e w') : CutPost l size fr to st w e w' := by
  unfold MkPost at hp
  by_cases c : 40 < (cutL l fr to st).length
  · rw [if_pos c] at hp
    refine ⟨.slice none 0 0, by rw [hp]; unfold cutB; rw [h, decide_eq_false (by omega)]; rfl, ?_, hb⟩
    unfold cutT; rw [if_neg (by omega)]; exact World.ownsRow_nil _ _ _ _
  · rw [if_neg c] at hp
    obtain ⟨v, he, ho⟩ := hp
    refine ⟨v, by rw [he]; unfold cutB; rw [h, decide_eq_true (by omega)]; rfl, ?_, hb⟩
    unfold cutT; rw [if_pos ⟨h, by omega⟩]; exact own_mono ho hw

set_option maxRecDepth 100000 in
set_option maxHeartbeats 4000000 in
theorem marks_nil {h : Nat} {w : World} (H : Hv h (.slice none 0 0) [] w) : Calls Try.prog 34 #[.pointer (some ⟨h, 0, none⟩)] w fun e w' => MkPost w [] e w' ∧ w' = w := by
  have c0 := H.c
  clear H
  go_enter Try.func34, Try.ntmps34
  go_wp2_with fail
  go_loopw [4, 5] (fun a b wr => a = .slice none 0 0 ∧ b = .int .i64 0 ∧ wr = w) (fun _ _ _ => 0)
  case atStart => exact ⟨rfl, rfl, rfl⟩
  case round =>
    obtain ⟨rfl, rfl, rfl⟩ := hrel
    go_wp2
    go_ret2
    refine ⟨?_, rfl⟩
    unfold MkPost
    exact ⟨_, rfl, World.ownsRow_nil _ _ _ _⟩
theorem nil_row {h : Nat} {v : Value} {l : List En} {w : World} (H : Hv h v l w) : (v = .slice none 0 0 ∧ l = []) ∨ ∃ g cap, v = .slice (some ⟨g, 0, none⟩) l.length cap ∧ Hl h g cap l w := by
  rcases H.own.2 with ⟨hv, hn⟩ | ⟨g', cap', cur, hv, _⟩
  · exact .inl ⟨hv, List.length_eq_zero_iff.1 hn⟩
  · subst hv; exact .inr ⟨g', cap', rfl, H.hl.2⟩
/-- The heap, so many marks pushed. -/
def CI (fr to : Int) (st : ByteArray) (l : List Mk) (h : Nat) (W : World) (k : Nat) (wr : World) : Prop := ∃ v l', Hv h v l' wr ∧ Hp dE ahE l' ∧ Same ((l.take k).flatMap (pu fr to st)) l' ∧ Moves (OV h (.slice none 0 0)) W (OV h v) wr
theorem pu_len (fr to : Int) (st : ByteArray) : ∀ l : List Mk, (l.flatMap (pu fr to st)).length ≤ 4 * l.length
  | [] => by simp
  | m :: l => by
    have := pu_len fr to st l
    have e : ∀ x : Mk, (endsOf x).length ≤ 2 := fun x => by unfold endsOf; split <;> simp
    have e2 : (pu fr to st m).length ≤ 4 := by
      unfold pu; split
      · have := e m; omega
      · have := e ⟨m.frm, min m.to fr, st⟩; have := e ⟨max m.frm to, m.to, st⟩; simp only [List.length_append]; omega
    rw [List.flatMap_cons, List.length_append, List.length_cons]; omega
theorem CI.below {fr to : Int} {st : ByteArray} {l : List Mk} {h : Nat} {W wr : World} {k : Nat} (c : CI fr to st l h W k wr) {m : Nat} (hm : m ≤ h) (hW : h < W.heap.size) : Below m W wr := by
  obtain ⟨v, l', _, _, _, mv⟩ := c
  exact mv.below (by omega) (fun k hk c => by rcases c with c | c; omega; cases c)

set_option maxRecDepth 100000 in
set_option maxHeartbeats 8000000 in
theorem cutI {w : World} {g cap : Nat} {l : List Mk} (size fr to : Int) (st : ByteArray) (hst : st.size ≤ 1048576) (h : MrIn w g cap l)
    (hG : Calls Try.prog 31 #[.slice (some ⟨g, 0, none⟩) l.length cap, .int .i64 size] w fun e w' => e = .returned (.bool (goodM l size)) ∧ Below w.heap.size w w') :
    Calls Try.prog 12 #[.slice (some ⟨g, 0, none⟩) l.length cap, .int .i64 size, .int .i64 fr, .int .i64 to, .string st] w (CutPost l size fr to st w) := by
  have hcp := h.cap
  have hln := h.len
  have G := hide hG
  have I := hide (fun w => isStyle_any st w hst)
  have H := hide h
  clear h hG
  cases hg : goodM l size with
  | false =>
    rw [hg] at G
    have HN : Hid (∀ w', Below w.heap.size w w' → CutPost l size fr to st w (.returned (.tuple #[.slice none 0 0, .bool false])) w') := hide (fun w' hb => cut_no (by unfold cutOk; rw [hg]; rfl) hb)
    clear hg
    go_enter Try.func12, Try.ntmps12
    go_wp2_with (first | (go_at_call 31; refine G.out.mono ?_; rintro e w1 ⟨rfl, hb1⟩) | (go_at_call 32; refine (I.out _).mono ?_; rintro e w' ⟨rfl, hw⟩; replace hw := hw.symm; subst hw))
    go_ret2
    exact HN.out _ hb1
  | true =>
    rw [hg] at G
    by_cases h1 : 0 ≤ fr
    · by_cases h2 : fr ≤ to
      · by_cases h3 : to ≤ size
        · cases hi : isSt st with
          | false =>
            rw [hi] at I
            have HN : Hid (∀ w', Below w.heap.size w w' → CutPost l size fr to st w (.returned (.tuple #[.slice none 0 0, .bool false])) w') := hide (fun w' hb => cut_no (by unfold cutOk; rw [hi]; simp) hb)
            clear hg hi
            go_enter Try.func12, Try.ntmps12
            go_wp2_with (first | (go_at_call 31; refine G.out.mono ?_; rintro e w1 ⟨rfl, hb1⟩) | (go_at_call 32; refine (I.out _).mono ?_; rintro e w' ⟨rfl, hw⟩; replace hw := hw.symm; subst hw))
            go_ret2
            exact HN.out _ hb1
          | true =>
            rw [hi] at I
            have HY := hide (show cutOk l size fr to st = true by unfold cutOk; rw [hg, hi, decide_eq_true ⟨h1, h2, h3⟩]; rfl)
            have HG := hide hg
            obtain ⟨hz, h40⟩ := goodM_nums hg
            clear hg hi
            go_enter Try.func12, Try.ntmps12
            go_wp2_with (first | (go_at_call 31; refine G.out.mono ?_; rintro e w1 ⟨rfl, hb1⟩) | (go_at_call 32; refine (I.out _).mono ?_; rintro e w' ⟨rfl, hw⟩; replace hw := hw.symm; subst hw))
            have hw1 := hb1.size
            obtain ⟨W, hW⟩ : ∃ W, W = w1.alloc (.cells #[.slice none 0 0] 50) := ⟨_, rfl⟩
            have hbW : Below w.heap.size w W := by rw [hW]; exact hb1.alloc hb1.size _
            have hWs : w1.heap.size < W.heap.size := by rw [hW]; simp
            have C0 : Hid (CI fr to st l w1.heap.size W 0 W) := hide (by
              refine ⟨.slice none 0 0, [], ⟨?_, ?_, World.ownsRow_nil _ _ _ _, by intro c; cases c⟩, fun k _ hk => by simp at hk, Same.refl _, Moves.refl _ _⟩
              · rw [hW]; unfold World.cell?; rw [heap_alloc_new]; rfl
              · rw [hW]; exact World.frozen?_alloc_new _ _ _ _)
            have HB := hide hbW
            rw [← hW]
            clear hW hb1 hbW
            go_loopw [40] (fun i wr => ∃ k : Nat, k ≤ l.length ∧ i = .int .i64 k ∧ Hid (CI fr to st l w1.heap.size W k wr)) (fun i _ => l.length - (intOf i).toNat)
            case atStart => exact ⟨0, by omega, rfl, C0⟩
            case round =>
              obtain ⟨k, hk, rfl, HC⟩ := hrel
              have HBr := hide (HB.out.trans (HC.out.below hw1 hWs))
              by_cases hlt : k < l.length
              · obtain ⟨c0, c1, c2⟩ := (H.out.later HBr.out).at'.mrat k hlt
                obtain ⟨v, l', hv, hp, hs, hmv⟩ := HC.out
                have hl' : l'.length ≤ 4 * k := by
                  rw [hs.len]
                  have := pu_len fr to st (l.take k)
                  rw [List.length_take] at this
                  omega
                have hnx : Hid (∀ l3, Same (l' ++ pu fr to st l[k]) l3 → Same ((l.take (k + 1)).flatMap (pu fr to st)) l3) := hide (fun l3 h3 => by
                  rw [List.take_succ_eq_append_getElem hlt, List.flatMap_append, List.flatMap_singleton]
                  refine Same.trans ⟨?_, fun x => ?_⟩ h3
                  · rw [List.length_append, List.length_append, hs.len]
                  · rw [List.count_append, List.count_append, hs.cnt x])
                obtain ⟨m, hmm⟩ : ∃ m, m = l[k] := ⟨_, rfl⟩
                rw [← hmm] at c0 c1 c2 hnx
                obtain ⟨y0, y1, y2⟩ := cellsE_new wr (.int .i64 m.frm) (.int .i64 m.to) (.string m.style)
                have z0 := y0 46
                have z1 := y1 46
                have z2 := y2 46
                have hb2 : Below wr.heap.size wr (wr.alloc (.cells #[.int .i64 m.frm, .int .i64 m.to, .string m.style] 46)) := (Below.refl _ _).alloc (Nat.le_refl _) _
                have hlv := hide (fun k (c : OV w1.heap.size v k) => hv.ltO c)
                have HM := hide (hmv.trans (mv_up hb2))
                have hv2 := hv.up hb2
                cases he : m.style.toList == st.toList with
                | false =>
                  have hpu : pu fr to st m = endsOf m := by unfold pu; rw [if_pos he]
                  have P0 := pushMark_any hv2 hp m (by omega)
                  unfold mrV at P0
                  have P := hide P0
                  have HQ := hide hpu
                  clear P0 hv hp hs hmv hb2 hv2 y0 y1 y2 hmm HC hpu hlv
                  go_wp2_with fail
                  refine P.out.mono ?_
                  rintro e w3 ⟨rfl, v3, l3, hv3, hp3, hs3, hm3⟩
                  have C3 := hide (show CI fr to st l w1.heap.size W (k + 1) w3 from ⟨v3, l3, hv3, hp3, hnx.out l3 (by rw [HQ.out]; exact hs3), HM.out.trans hm3⟩)
                  clear hv3 hp3 hs3 hm3
                  go_wp2
                  exact ⟨⟨k + 1, by omega, by go_num, C3⟩, by simp [intOf]; omega⟩
                | true =>
                  have hpu : pu fr to st m = endsOf ⟨m.frm, min m.to fr, st⟩ ++ endsOf ⟨max m.frm to, m.to, st⟩ := by unfold pu; rw [if_neg (by rw [he]; simp)]
                  have P0 := pushMark_any hv2 hp ⟨m.frm, min m.to fr, st⟩ (by omega)
                  unfold mrV at P0
                  have P := hide P0
                  have HQ := hide hpu
                  clear P0 hv hp hs hmv hb2 hv2 y0 y1 y2 hmm HC hpu
                  go_wp2_with fail
                  refine P.out.mono ?_
                  rintro e w3 ⟨rfl, v3, l3, hv3, hp3, hs3, hm3⟩
                  have hbx : w3.heap[wr.heap.size]? = (wr.alloc (.cells #[.int .i64 m.frm, .int .i64 m.to, .string m.style] 46)).heap[wr.heap.size]? := hm3.same _ (by simp) (fun c => absurd (hlv.out _ c) (by omega))
                  have b0 := (World.cell?_of_block (a := ⟨wr.heap.size, 0, none⟩) hbx).trans z0
                  have b1 := (World.cell?_of_block (a := ⟨wr.heap.size, 1, none⟩) hbx).trans z1
                  have e2 : ∀ x : Mk, (endsOf x).length ≤ 2 := fun x => by unfold endsOf; split <;> simp
                  have P1 := pushMark_any hv3 hp3 ⟨max m.frm to, m.to, st⟩ (by rw [hs3.len, List.length_append]; have := e2 ⟨m.frm, min m.to fr, st⟩; omega)
                  unfold mrV at P1
                  have P2 := hide P1
                  have HS3 := hide hs3
                  have HM3 := hide (HM.out.trans hm3)
                  clear P1 hv3 hp3 hs3 hm3 hbx z0 z1 z2 P HM e2 c0 c1 c2
                  go_wp2_with fail
                  refine P2.out.mono ?_
                  rintro e w4 ⟨rfl, v4, l4, hv4, hp4, hs4, hm4⟩
                  have C3 := hide (show CI fr to st l w1.heap.size W (k + 1) w4 from ⟨v4, l4, hv4, hp4, hnx.out l4 (by
                    rw [HQ.out, ← List.append_assoc]
                    refine Same.trans ⟨?_, fun x => ?_⟩ hs4
                    · rw [List.length_append, List.length_append, HS3.out.len]
                    · rw [List.count_append, List.count_append, HS3.out.cnt x]), HM3.out.trans hm4⟩)
                  clear hv4 hp4 hs4 hm4
                  go_wp2
                  exact ⟨⟨k + 1, by omega, by go_num, C3⟩, by simp [intOf]; omega⟩
              · obtain rfl : k = l.length := by omega
                obtain ⟨v, l', hv, hp, hs, hmv⟩ := HC.out
                rw [List.take_length] at hs
                obtain ⟨hpw, hok⟩ := good_pw HG.out
                have hS := cut_srt fr to st h2 l hpw
                have hsS : Same l' (l.flatMap (sE fr to st)) := ⟨by rw [hs.len, (all_cnt fr to st dE l).2], fun x => by rw [hs.cnt x, (all_cnt fr to st x l).1]⟩
                have hF := cut_fold fr to st h2 l (fun m hm => (mkOk_lt (hok m hm)).1)
                have hlen : l'.length ≤ 160 := by rw [hs.len]; have := pu_len fr to st l; omega
                have hop : ∀ e ∈ l', (e.op = 1 ∨ e.op = -1) ∧ e.st.size ≤ 1048576 := fun e he => by
                  have h1 : e ∈ l.flatMap (sE fr to st) := by
                    have := hsS.cnt e
                    rw [← List.count_pos_iff] at he ⊢
                    omega
                  obtain ⟨m, hm, hme⟩ := List.mem_flatMap.1 h1
                  have hin := sE_in fr to st m e hme
                  refine ⟨hin.2.2.2, ?_⟩
                  rw [hin.1]
                  have := (mkOk_lt (hok m hm)).2.1
                  omega
                have hwr := HBr.out.size
                rcases nil_row hv with ⟨rfl, rfl⟩ | ⟨g', cap', rfl, hl⟩
                · have e0 : l.flatMap (sE fr to st) = [] := List.length_eq_zero_iff.1 (by rw [hsS.len]; rfl)
                  have e1 : cutL l fr to st = [] := by rw [← hF, e0]; rfl
                  have MN := hide (marks_nil hv)
                  have HE := hide e1
                  clear hv hp hs hmv hpw hok hS hsS hF hop HC e0 e1
                  go_wp2_with (go_at_call 34; refine MN.out.mono ?_; rintro e w3 ⟨hpo, hw3⟩; obtain ⟨v5, b5, he5⟩ := mk_form hpo; subst he5; have HPO := hide hpo; have HW3 := hide hw3; clear hpo hw3)
                  go_ret2
                  refine cut_yes HY.out ?_ hwr ?_
                  · rw [HW3.out]; exact HBr.out
                  · rw [HE.out]; exact HPO.out
                · have hgg : w.heap.size ≤ g' := by
                    rcases Nat.lt_or_ge g' w.heap.size with c | c
                    · rcases hmv.own g' (by omega) (.inr rfl) with d | d
                      · omega
                      · cases d
                    · exact c
                  have MN := hide (marks_any hl hp (by omega) hop _ hS hsS)
                  have HE := hide hF
                  clear hl hv hp hs hmv hpw hok hS hsS hF hop HC
                  go_wp2_with (go_at_call 34; refine MN.out.mono ?_; rintro e w3 ⟨hpo, hm3⟩; obtain ⟨v5, b5, he5⟩ := mk_form hpo; subst he5; have HPO := hide hpo; have HM3 := hide hm3; clear hpo hm3)
                  go_ret2
                  refine cut_yes HY.out (HBr.out.trans (HM3.out.below hwr (fun k hk c => by omega))) hwr ?_
                  rw [← HE.out]; exact HPO.out
        · have HN : Hid (∀ w', Below w.heap.size w w' → CutPost l size fr to st w (.returned (.tuple #[.slice none 0 0, .bool false])) w') := hide (fun w' hb => cut_no (by unfold cutOk; rw [decide_eq_false (show ¬ (0 ≤ fr ∧ fr ≤ to ∧ to ≤ size) by omega)]; simp) hb)
          clear hg
          go_enter Try.func12, Try.ntmps12
          go_wp2_with (first | (go_at_call 31; refine G.out.mono ?_; rintro e w1 ⟨rfl, hb1⟩) | (go_at_call 32; refine (I.out _).mono ?_; rintro e w' ⟨rfl, hw⟩; replace hw := hw.symm; subst hw))
          go_ret2
          exact HN.out _ hb1
      · have HN : Hid (∀ w', Below w.heap.size w w' → CutPost l size fr to st w (.returned (.tuple #[.slice none 0 0, .bool false])) w') := hide (fun w' hb => cut_no (by unfold cutOk; rw [decide_eq_false (show ¬ (0 ≤ fr ∧ fr ≤ to ∧ to ≤ size) by omega)]; simp) hb)
        clear hg
        go_enter Try.func12, Try.ntmps12
        go_wp2_with (first | (go_at_call 31; refine G.out.mono ?_; rintro e w1 ⟨rfl, hb1⟩) | (go_at_call 32; refine (I.out _).mono ?_; rintro e w' ⟨rfl, hw⟩; replace hw := hw.symm; subst hw))
        go_ret2
        exact HN.out _ hb1
    · have HN : Hid (∀ w', Below w.heap.size w w' → CutPost l size fr to st w (.returned (.tuple #[.slice none 0 0, .bool false])) w') := hide (fun w' hb => cut_no (by unfold cutOk; rw [decide_eq_false (show ¬ (0 ≤ fr ∧ fr ≤ to ∧ to ≤ size) by omega)]; simp) hb)
      clear hg
      go_enter Try.func12, Try.ntmps12
      go_wp2_with (first | (go_at_call 31; refine G.out.mono ?_; rintro e w1 ⟨rfl, hb1⟩) | (go_at_call 32; refine (I.out _).mono ?_; rintro e w' ⟨rfl, hw⟩; replace hw := hw.symm; subst hw))
      go_ret2
      exact HN.out _ hb1
end Go.Proofs.Ytknodkdlphngmax
