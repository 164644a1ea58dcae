/- The program's MoveMarks. -/
import Derived.Test.YtknodkdlphngmawDoorAddW1
import Derived.Test.YtknodkdlphngmawDoorMmSM
import Derived.Test.YtknodkdlphngmawDoorMoveW1
namespace Go.Proofs.YtknodkdlphngmawDoor
open Go.RowKit Go.Shelf
open Doc1

set_option maxRecDepth 100000 in
set_option maxHeartbeats 8000000 in
theorem mmI {w : World} {g cap gm cm : Nat} {op : List Pt} {l : List Mk} (h : Pin w g cap op) (hm : MrIn w gm cm l) (hT : Tab w)
    (hG : ∀ w1 size, MrIn w1 gm cm l → Calls Tryd.prog 38 #[.slice (some ⟨gm, 0, none⟩) l.length cm, .int .i64 size] w1 fun e w' => e = .returned (.bool (goodM l size)) ∧ Below w1.heap.size w1 w') :
    Calls Tryd.prog 16 #[.slice (some ⟨g, 0, none⟩) op.length cap, .slice (some ⟨gm, 0, none⟩) l.length cm] w (RsPost (mmOk op l) (mmL op l) w) := by
  have hcp := hm.cap
  have hln := hm.len
  have S := hide (sizesI_any h hT)
  have HP := hide (fun w' (hb : Below w.heap.size w w') a f => moveI a f (h.later hb) (hT.below hb))
  have H := hide hm
  unfold mmOk
  cases ho : goodO op with
  | false =>
    rw [ho] at S
    have HN : Hid (∀ w', Below w.heap.size w w' → RsPost (false && goodM l (tkL op)) (mmL op l) w (.returned (.tuple #[.slice none 0 0, .bool false])) w') := hide (fun w' hb => rs_no rfl hb)
    clear ho hm h hG
    go_enter Tryd.func16, Tryd.ntmps16
    go_wp2_with (go_at_call 32; refine S.out.mono ?_; rintro e w1 ⟨rfl, hb1⟩)
    go_ret2
    exact HN.out _ hb1
  | true =>
    have hsT : szT op = tkL op := by unfold szT; rw [ho]; rfl
    rw [ho, hsT] at S
    have G := hide (fun w1 (hb : Below w.heap.size w w1) => hG w1 (tkL op) (hm.later hb))
    cases hg : goodM l (tkL op) with
    | false =>
      rw [hg] at G
      have HN : Hid (∀ w', Below w.heap.size w w' → RsPost (true && false) (mmL op l) w (.returned (.tuple #[.slice none 0 0, .bool false])) w') := hide (fun w' hb => rs_no rfl hb)
      clear hg ho hm h hG hsT
      go_enter Tryd.func16, Tryd.ntmps16
      go_wp2_with (first | (go_at_call 32; refine S.out.mono ?_; rintro e w1 ⟨rfl, hb1⟩) | (go_at_call 38; refine (G.out _ hb1).mono ?_; rintro e w2 ⟨rfl, hb2⟩))
      go_ret2
      exact HN.out _ (hb1.trans (hb2.mono hb1.size))
    | true =>
      rw [hg] at G
      have HG := hide hg
      obtain ⟨hz, h40⟩ := goodM_nums hg
      clear hg ho hm h hG hsT
      go_enter Tryd.func16, Tryd.ntmps16
      go_wp2_with (first | (go_at_call 32; refine S.out.mono ?_; rintro e w1 ⟨rfl, hb1⟩) | (go_at_call 38; refine (G.out _ hb1).mono ?_; rintro e w2 ⟨rfl, hb2⟩))
      have hB2 := hb1.trans (hb2.mono hb1.size)
      have hw2 := hB2.size
      obtain ⟨W, hW⟩ : ∃ W, W = w2.alloc (.cells #[.slice none 0 0] 78) := ⟨_, rfl⟩
      have hbW : Below w.heap.size w W := by rw [hW]; exact hB2.alloc hw2 _
      have hWs : w2.heap.size < W.heap.size := by rw [hW]; simp
      have P0 := pi_new w2 78
      rw [← hW] at P0
      rw [← hW]
      have HP0 := hide P0
      have HB := hide hbW
      clear hW hb1 hb2 hB2 hbW P0
      go_loopw [32] (fun i wr => ∃ k : Nat, k ≤ l.length ∧ i = .int .i64 k ∧ Hid (PI (((l.take k).map (mvM op)).flatMap endsOf) w2.heap.size W wr)) (fun i _ => l.length - (intOf i).toNat)
      case atStart => exact ⟨0, by omega, rfl, by simpa using HP0⟩
      case round =>
        obtain ⟨k, hk, rfl, HC⟩ := hrel
        have HBr := hide (HB.out.trans (HC.out.below hw2 hWs))
        by_cases hlt : k < l.length
        · obtain ⟨c0, c1, c2⟩ := (H.out.later HBr.out).at'.mrat k hlt
          have hE := ends_len ((l.take k).map (mvM op))
          rw [List.length_map, List.length_take] at hE
          have hnx : Hid (((l.take k).map (mvM op)).flatMap endsOf ++ endsOf (mvM op l[k]) = ((l.take (k + 1)).map (mvM op)).flatMap endsOf) := hide (by
            rw [List.take_succ_eq_append_getElem hlt, List.map_append, List.flatMap_append]; simp)
          obtain ⟨x, hxx⟩ : ∃ x, x = l[k] := ⟨_, rfl⟩
          rw [← hxx] at c0 c1 c2 hnx
          obtain ⟨y0, y1, y2⟩ := cellsE_new wr (.int .i64 x.frm) (.int .i64 x.to) (.string x.style)
          have z0 := y0 73
          have z1 := y1 73
          have z2 := y2 73
          have hb2 : Below wr.heap.size wr (wr.alloc (.cells #[.int .i64 x.frm, .int .i64 x.to, .string x.style] 73)) := (Below.refl _ _).alloc (Nat.le_refl _) _
          have hsx : (wr.alloc (.cells #[.int .i64 x.frm, .int .i64 x.to, .string x.style] 73)).heap.size = wr.heap.size + 1 := by simp
          have P1 := hide (HP.out _ (HBr.out.trans (hb2.mono HBr.out.size)) x.frm true)
          have HB2 := hide hb2
          clear hb2 y0 y1 y2 hxx
          go_wp2_with fail
          refine P1.out.mono ?_
          rintro e w4 ⟨rfl, hb4⟩
          have x4 := hb4.block wr.heap.size (by omega)
          have d1 := (World.cell?_of_block (a := ⟨wr.heap.size, 1, none⟩) x4).trans z1
          have d2 := (World.cell?_of_block (a := ⟨wr.heap.size, 2, none⟩) x4).trans z2
          have HB4 := hide (HB2.out.trans (hb4.mono (by omega)))
          have hs4 := hb4.size
          have P2 := hide (HP.out _ (HBr.out.trans (HB4.out.mono HBr.out.size)) x.to false)
          clear x4 hb4 z0 z1 z2 P1 HB2
          go_wp2_with fail
          refine P2.out.mono ?_
          rintro e w5 ⟨rfl, hb5⟩
          have x5 := hb5.block wr.heap.size (by omega)
          have f2 := (World.cell?_of_block (a := ⟨wr.heap.size, 2, none⟩) x5).trans d2
          have HB5 := hide (HB4.out.trans (hb5.mono (by omega)))
          have P3 := hide (pi_push (HC.out.up HB5.out) (mvM op x) (by omega))
          rw [hnx.out] at P3
          clear x5 hb5 d1 d2 P2 HB4 hnx hE HC
          go_wp2_with fail
          refine P3.out.mono ?_
          rintro e w6 ⟨rfl, hp6⟩
          have HP6 := hide hp6
          clear hp6
          go_wp2
          exact ⟨⟨k + 1, by omega, by go_num, HP6⟩, by simp [intOf]; omega⟩
        · obtain rfl : k = l.length := by omega
          rw [List.take_length] at HC
          obtain ⟨hpw, hok⟩ := good_pw HG.out
          obtain ⟨E', hr, hE, hpw2, hl2⟩ := rp_all _ (l.map (mvM op)) rfl
          have hlen := ends_len (l.map (mvM op))
          rw [List.length_map] at hlen
          have MN := hide (pi_marks HC.out hE hr hpw2 (by omega) (addMs_style (fun s => s.size ≤ 1048576) _ _ rfl (fun x hx => by
            obtain ⟨y, hy, rfl⟩ := List.mem_map.1 hx
            have := (mkOk_lt (hok y hy)).2.1
            show y.style.size ≤ 1048576
            omega)) hw2 hWs)
          have hwr := HBr.out.size
          clear hpw hok hr hE HC hlen hpw2 hl2
          go_wp2_with (go_at_call 40; refine MN.out.mono ?_; rintro e w5 ⟨hpo, hm5⟩; obtain ⟨v5, b5, he5⟩ := mk_form hpo; subst he5; have HPO := hide hpo; have HM5 := hide hm5; clear hpo hm5)
          go_ret2
          exact rs_yes (by rfl) (HBr.out.trans HM5.out) hwr HPO.out
end Go.Proofs.YtknodkdlphngmawDoor
