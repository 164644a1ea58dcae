/- The heap is emptied: the marks that its ends make. -/
import Derived.Test.YtknodkdlphngmawDoorHeapU
import Derived.Test.YtknodkdlphngmawDoorHeapQ
import Derived.Test.YtknodkdlphngmawDoorShelf
import Derived.Deep.RegionHeld3
namespace Go.Proofs.YtknodkdlphngmawDoor
open Go.RowKit
open Doc1

theorem Tryd.infoMk : (Tryd.prog.info? 73).map (fun i => (i.zero, i.size, i.bytes)) = some (some (.agg #[.int .i64 0, .int .i64 0, .string ⟨#[]⟩]), 3, 32) := by kernel_rfl
theorem cloneE_any (s : ByteArray) (w : World) (hs : s.size ≤ 1048576) :
    Calls Tryd.prog 57 #[.string s] w fun e w' => e = .returned (.string s) ∧ Below w.heap.size w w' := by
  have H := hide (Tryd.stringslite_Clone s w (by omega))
  go_enter Tryd.func57, Tryd.ntmps57
  go_wp2_with (go_at_call 69; refine H.out.mono ?_; rintro e w' ⟨rfl, hb⟩)
  go_ret
  exact ⟨rfl, hb⟩
/-- What has been told, and what is left. -/
structure MI (h g cap : Nat) (l : List En) (w : World) (pre l' : List En) (wr : World) : Prop where
  hl : Hl h g cap l' wr
  hp : Hp dE ahE l'
  sm : Same l (pre ++ l')
  srt : Srt ahE pre
  ab : ∀ a ∈ pre, ∀ b ∈ l', le ahE a b
  mv : Moves (fun k => k = h ∨ k = g) w (fun k => k = h ∨ k = g) wr
def MO (w : World) (pre : List En) (v : Value) (wr : World) : Prop := wr.ownsRow w.heap.size 73 3 v (mkF pre).1.length (encMr (mkF pre).1)
theorem same_mem {a b : List En} (h : Same a b) {x : En} (hx : x ∈ b) : x ∈ a := by
  have := h.cnt x
  rw [← List.count_pos_iff] at hx ⊢
  omega
theorem MI.pop {h g cap : Nat} {l : List En} {w : World} {pre l' l2 : List En} {wr w2 : World} (I : MI h g cap l w pre l' wr) (h0 : 0 < l'.length) (k1 : Hl h g cap l2 w2) (k2 : Hp dE ahE l2) (k3 : Same l' (l'[0] :: l2)) (k4 : Moves (fun k => k = h ∨ k = g) wr (fun k => k = h ∨ k = g) w2) : MI h g cap l w (pre ++ [l'[0]]) l2 w2 := by
  have hmin : ∀ b ∈ l', le ahE l'[0] b := fun b hb => by
    obtain ⟨k, hk, rfl⟩ := List.getElem_of_mem hb
    have := hp_min ahE_ord I.hp k k (Nat.le_refl _) hk
    rw [gt_at h0, gt_at hk] at this
    exact this
  have hmem : ∀ b ∈ l2, b ∈ l' := fun b hb => same_mem k3 (List.mem_cons_of_mem _ hb)
  refine ⟨k1, k2, I.sm.trans ⟨?_, fun x => ?_⟩, ?_, ?_, I.mv.trans k4⟩
  · have := k3.len
    simp only [List.length_append, List.length_cons, List.length_nil] at this ⊢
    omega
  · have := k3.cnt x
    rw [List.append_assoc, List.singleton_append, List.count_append, List.count_append, this]
  · unfold Srt
    rw [List.pairwise_append]
    refine ⟨I.srt, List.pairwise_singleton _ _, fun a ha b hb => ?_⟩
    rw [List.mem_singleton] at hb
    subst hb
    exact I.ab a ha _ (List.getElem_mem h0)
  · intro a ha b hb
    rcases List.mem_append.1 ha with c | c
    · exact I.ab a c b (hmem b hb)
    · rw [List.mem_singleton] at c
      subst c
      exact hmin b (hmem b hb)
theorem MI.up {h g cap : Nat} {l : List En} {w : World} {pre l' : List En} {wr w2 : World} (I : MI h g cap l w pre l' wr) (hb : Below wr.heap.size wr w2) : MI h g cap l w pre l' w2 := ⟨I.hl.up hb, I.hp, I.sm, I.srt, I.ab, I.mv.trans (mv_up hb)⟩
theorem MI.grow {h g cap : Nat} {l : List En} {w : World} {pre l' : List En} {wr w2 : World} {row : Option Nat} (I : MI h g cap l w pre l' wr) (hg : wr.grownBy w2 row) (hr : ∀ k, row = some k → w.heap.size ≤ k) (h1 : h < w.heap.size) (h2 : g < w.heap.size) : MI h g cap l w pre l' w2 := by
  have hsz := I.mv.size
  have fa : ∀ k, k < w.heap.size → w2.heap[k]? = wr.heap[k]? := fun k hk => hg.block k (by omega) (fun e => absurd (hr k e.symm) (by omega))
  obtain ⟨cs, k1, k2⟩ := I.hl.ex
  exact ⟨⟨cs, k1.kept (fa _ h1) (fa _ h2), k2⟩, I.hp, I.sm, I.srt, I.ab, ⟨hg.os.trans I.mv.os, hg.tape.trans I.mv.tape, hg.output.trans I.mv.output, Nat.le_trans hsz hg.size, fun k hk hn => (fa k hk).trans (I.mv.same k hk hn), I.mv.own⟩⟩
/-- A row from after the call bears whatever the heap does. -/
theorem row_mv {w wr w2 : World} {h g n : Nat} {v : Value} {xs : List Value} {e : TypeId} (ho : wr.ownsRow w.heap.size e 3 v n xs) (hm : Moves (fun k => k = h ∨ k = g) wr (fun k => k = h ∨ k = g) w2) (h1 : h < w.heap.size) (h2 : g < w.heap.size) : w2.ownsRow w.heap.size e 3 v n xs := by
  refine ⟨ho.1, ?_⟩
  rcases ho.2 with hn | ⟨g', cap, cur, hv, hb', hh, rest⟩
  · exact .inl hn
  · exact .inr ⟨g', cap, cur, hv, hb', (hm.same g' (Array.getElem?_eq_some_iff.1 hh).1 (by omega)).trans hh, rest⟩
theorem grow_cells {w1 w2 : World} {row : Option Nat} {b : Nat} {a0 a1 a2 : Value} (hg : w1.grownBy w2 row) (hne : row ≠ some b) (hl : b < w1.heap.size) (h : w1.cell? ⟨b, 1, none⟩ = some a1 ∧ w1.cell? ⟨b, 0, none⟩ = some a0 ∧ w1.cell? ⟨b, 2, none⟩ = some a2) : w2.cell? ⟨b, 1, none⟩ = some a1 ∧ w2.cell? ⟨b, 0, none⟩ = some a0 ∧ w2.cell? ⟨b, 2, none⟩ = some a2 := by
  have e := hg.block b hl (Ne.symm hne)
  exact ⟨(World.cell?_of_block (a := ⟨b, 1, none⟩) e).trans h.1, (World.cell?_of_block (a := ⟨b, 0, none⟩) e).trans h.2.1, (World.cell?_of_block (a := ⟨b, 2, none⟩) e).trans h.2.2⟩
/-- How many ends lie in the heap. -/
def lenAt (w : World) (h : Nat) : Nat := match w.cell? ⟨h, 0, none⟩ with
  | some (.slice _ n _) => n
  | _ => 0
theorem Hl.lenAt {h g cap : Nat} {l : List En} {w : World} (H : Hl h g cap l w) : lenAt w h = l.length := by
  obtain ⟨cs, h1, _⟩ := H.ex
  unfold Go.Proofs.YtknodkdlphngmawDoor.lenAt; rw [h1.c]
theorem stE_open (out : List Mk) (x : En) (h : x.op ≠ 0) : stE (out, 0) x = (out ++ [⟨x.at', 0, x.st⟩], x.op) := by
  unfold stE opnE
  simp [h]
theorem stE_2 (s : List Mk × Int) (x : En) : (stE s x).2 = s.2 + x.op := by unfold stE; split <;> rfl
theorem stE_close (out : List Mk) {o : Int} (x : En) (h : o ≠ 0) (h1 : o + x.op = 0) : (stE (out, o) x).1 = setTo out x.at' := by
  unfold stE opnE
  simp [h, h1]
theorem stE_stay (out : List Mk) {o : Int} (x : En) (h : o ≠ 0) (h1 : ¬ o + x.op = 0) : (stE (out, o) x).1 = out := by
  unfold stE opnE
  simp [h, h1]
theorem grown_refl (w : World) (row : Option Nat) : w.grownBy w row := ⟨rfl, rfl, rfl, Nat.le_refl _, fun _ _ _ => rfl⟩
theorem encMr_set (l : List Mk) (t : Int) : ∀ i (h : i < l.length), (encMr l).set (i * 3 + 1) (.int .i64 t) = encMr (l.set i ⟨l[i].frm, t, l[i].style⟩) := by
  induction l with
  | nil => intro i h; simp at h
  | cons y l ih =>
    intro i h
    have e : ∀ z (m : List Mk), encMr (z :: m) = .int .i64 z.frm :: .int .i64 z.to :: .string z.style :: encMr m := fun z m => by simp [encMr, mrC]
    cases i with
    | zero => simp [e]
    | succ i =>
      have := ih i (by simpa using h)
      rw [show (i + 1) * 3 + 1 = i * 3 + 1 + 1 + 1 + 1 by omega]
      simp only [e, List.set_cons_succ, List.getElem_cons_succ]
      rw [← this]
theorem mr_last {w : World} {B r n cp m : Nat} {out : List Mk} (h : w.ownsRow B 73 3 (.slice (some ⟨r, 0, none⟩) n cp) n (encMr out)) (hm : out.length = m + 1) (t : Int) :
    ∃ T, w.cell? ⟨r, m * 3 + 1, none⟩ = some T ∧ (w.setCell ⟨r, m * 3 + 1, none⟩ (.int .i64 t)).ownsRow B 73 3 (.slice (some ⟨r, 0, none⟩) n cp) n (encMr (setTo out t)) := by
  have hn : n = m + 1 := by have := h.1; rw [encMr_len] at this; omega
  rcases h.2 with ⟨hv, _⟩ | ⟨g', cap, cur, hv, hb, hh, k1, k2, k3, k4⟩
  · cases hv
  · cases hv
    have hsz : m * 3 + 1 < cur.size := by omega
    refine ⟨cur[m * 3 + 1], ?_, ?_⟩
    · unfold World.cell?; rw [hh]; simp [hsz]
    · have es : setTo out t = out.set m ⟨(out[m]'(by omega)).frm, t, (out[m]'(by omega)).style⟩ := by
        unfold setTo
        have : out.getLast? = some (out[m]'(by omega)) := by rw [List.getLast?_eq_getElem?, show out.length - 1 = m by omega, List.getElem?_eq_getElem (by omega)]
        rw [this, show out.length - 1 = m by omega]
      refine ⟨by rw [es, encMr_len, List.length_set]; omega, .inr ⟨r, cp, cur.set! (m * 3 + 1) (.int .i64 t), rfl, hb, row1_set hh _ _, k1, k2, by simpa using k3, ?_⟩⟩
      rw [es, ← encMr_set out t m (by omega), ← k4]
      simp [List.take_set]
/-- What is told in the end: the marks, or that they are too many. -/
def MkPost (w : World) (ms : List Mk) (e : Ending) (w' : World) : Prop := if 40 < ms.length then e = .returned (.tuple #[.slice none 0 0, .bool false]) else ∃ v, e = .returned (.tuple #[v, .bool true]) ∧ w'.ownsRow w.heap.size 73 3 v ms.length (encMr ms)

set_option maxRecDepth 100000 in
set_option maxHeartbeats 8000000 in
theorem marks_any {h g cap : Nat} {l : List En} {w : World} (H : Hl h g cap l w) (hp : Hp dE ahE l) (hl : l.length ≤ 90000) (hop : ∀ e ∈ l, (e.op = 1 ∨ e.op = -1) ∧ e.st.size ≤ 1048576) (S : List En) (hS : Srt ahE S) (hc : Same l S) :
    Calls Tryd.prog 40 #[.pointer (some ⟨h, 0, none⟩)] w fun e w' => MkPost w (mkF S).1 e w' ∧ Moves (fun k => k = h ∨ k = g) w (fun k => k = h ∨ k = g) w' := by
  obtain ⟨i0, hi0, hz0, hz1, hz2⟩ := info_parts Tryd.infoMk
  have hhl : h < w.heap.size := by obtain ⟨cs, h1, _⟩ := H.ex; exact h1.hlt
  have hgl : g < w.heap.size := by obtain ⟨cs, h1, _⟩ := H.ex; exact h1.glt
  have I0 : Hid (MI h g cap l w [] l w) := hide ⟨H, hp, Same.refl l, List.Pairwise.nil, fun a ha => (by cases ha), Moves.refl _ _⟩
  have O0 : Hid (MO w [] (.slice none 0 0) w) := hide ⟨rfl, .inl ⟨rfl, rfl⟩⟩
  have HOP := hide hop
  have HSS := hide hS
  have HC := hide hc
  clear H hp hop hS hc
  go_enter Tryd.func40, Tryd.ntmps40
  go_wp2_with fail
  go_loopw [4, 5] (fun a b wr => ∃ pre l' v, v = a ∧ pre.length + l'.length = l.length ∧ b = .int .i64 (mkF pre).2 ∧ Hid (MI h g cap l w pre l' wr) ∧ Hid (MO w pre v wr)) (fun _ _ wr => lenAt wr h)
  case atStart => exact ⟨[], l, _, rfl, by simp, rfl, I0, O0⟩
  case round =>
    obtain ⟨pre, l', v, hva, hlen, rfl, HI, HO⟩ := hrel
    subst hva
    have c0 : wr.cell? ⟨h, 0, none⟩ = some (.slice (some ⟨g, 0, none⟩) l'.length cap) := by obtain ⟨cs, h1, _⟩ := HI.out.hl.ex; exact h1.c
    have hlc : lenAt wr h = l'.length := by unfold lenAt; rw [c0]
    by_cases h0 : 0 < l'.length
    · obtain ⟨x, hx⟩ : ∃ x, x = l'[0] := ⟨_, rfl⟩
      have hmem : x ∈ l := same_mem HI.out.sm (List.mem_append_right _ (hx ▸ List.getElem_mem h0))
      obtain ⟨hop, hst⟩ := HOP.out x hmem
      have hb := mkF_bd pre (fun e he => (HOP.out e (same_mem HI.out.sm (List.mem_append_left _ he))).1)
      have HP0 := pop_any HI.out.hl HI.out.hp (by omega) h0
      have HN := hide (fun l2 w2 k1 k2 k3 k4 => HI.out.pop (l2 := l2) (w2 := w2) h0 k1 k2 k3 k4)
      rw [← hx] at HP0 HN
      unfold enV at HP0
      have HP := hide HP0
      have HX := hide (mkF_snoc pre x)
      have CL := hide (fun w => cloneE_any x.st w hst)
      have hi1 : (0 : Int) < (l'.length : Int) := by omega
      obtain ⟨o, hoo⟩ : ∃ o, o = (mkF pre).2 := ⟨_, rfl⟩
      obtain ⟨out, hout⟩ : ∃ out, out = (mkF pre).1 := ⟨_, rfl⟩
      have HO' : Hid (wr.ownsRow w.heap.size 73 3 v out.length (encMr out)) := hide (by rw [hout]; exact HO.out)
      rw [← hoo, ← hout] at hb
      have HE : Hid (mkF pre = (out, o)) := hide (by rw [hout, hoo])
      rw [HE.out] at HX
      rw [← hoo]
      clear HO HP0 hx hoo hout hmem
      by_cases ho : o = 0
      · subst ho
        go_wp2_with fail
        refine HP.out.mono ?_
        rintro e w2 ⟨rfl, l2, k1, k2, k3, k4⟩
        have I2 := HN.out l2 w2 k1 k2 k3 k4
        have O2 := row_mv HO'.out k4 hhl hgl
        obtain ⟨y0, y1, y2⟩ := cellsE_new w2 (.string x.st) (.int .i64 x.at') (.int .i64 x.op)
        obtain ⟨w3, hw3⟩ : ∃ w3, w3 = w2.alloc (.cells #[.string x.st, .int .i64 x.at', .int .i64 x.op] 101) := ⟨_, rfl⟩
        have z0 := y0 101
        have z1 := y1 101
        have z2 := y2 101
        rw [← hw3] at z0 z1 z2
        have hb3 : Below w2.heap.size w2 w3 := by rw [hw3]; exact (Below.refl _ _).alloc (Nat.le_refl _) _
        have HI3 := hide (I2.up hb3)
        have hs3 : w2.heap.size < w3.heap.size := by rw [hw3]; simp
        have hws := HI3.out.mv.size
        have O3 : w3.ownsRow w.heap.size 73 3 v out.length (encMr out) := by rw [hw3]; exact O2.alloc _
        have hvb : v.ownBlock ≠ some w2.heap.size := fun e => absurd (O2.lt _ e).2 (by omega)
        have hl2 := k3.len
        rw [List.length_cons] at hl2
        clear k1 k2 k3 k4 I2 O2 HP HN y0 y1 y2 c0 HO' hb3
        go_wp2_with fail
        rw [← hw3]
        clear hw3
        have KK : Hid (∀ w', Below w3.heap.size w3 w' → w'.cell? ⟨w2.heap.size, 1, none⟩ = some (.int .i64 x.at') ∧ w'.cell? ⟨w2.heap.size, 0, none⟩ = some (.string x.st) ∧ w'.cell? ⟨w2.heap.size, 2, none⟩ = some (.int .i64 x.op)) := hide (fun w' hb => ⟨(World.cell?_of_block (hb.block _ hs3)).trans z1, (World.cell?_of_block (hb.block _ hs3)).trans z0, (World.cell?_of_block (hb.block _ hs3)).trans z2⟩)
        have O4 : Hid (∀ w', Below w3.heap.size w3 w' → w'.ownsRow w.heap.size 73 3 v out.length (encMr out)) := hide (fun w' hb => own_below O3 hb)
        go_region_held3 (fun w' => w'.cell? ⟨w2.heap.size, 1, none⟩ = some (.int .i64 x.at') ∧ w'.cell? ⟨w2.heap.size, 0, none⟩ = some (.string x.st) ∧ w'.cell? ⟨w2.heap.size, 2, none⟩ = some (.int .i64 x.op))
          (first | assumption | exact KK.out _ (Below.refl _ _) | exact KK.out _ (Below.refl _ _).drew | exact hS5 | exact KK.out _ hb5 | exact KK.out _ (hb5.alloc hb5.size _))
          (first
            | (go_at_call 57; refine (CL.out _).mono ?_; rintro e w4 ⟨rfl, hb4⟩; have hb5 : Below w3.heap.size w3 w4 := (by first | exact hb4 | exact (Below.refl w3.heap.size w3).drew.trans hb4); have hsz5 := hb5.size)
            | ((refine step_append_lies _ (by rfl) _ _ _ (by rfl) w.heap.size 73 i0 _ 3 32 Tryd.underlying35 hi0 hz0 hz1 hz2 rfl (by omega) v out.length (encMr out) (by rfl) ((O4.out _ hb5).alloc _)
                    ⟨w4.heap.size, 0, none⟩ 1 1 [.int .i64 x.at', .int .i64 0, .string x.st] (by rfl) (by rfl) (World.news_of_block (cs := #[.int .i64 x.at', .int .i64 0, .string x.st]) (t := 73) (fr := (0, 0)) (heap_alloc_new w4 _)) (by simp [Value.oneCell'])
                    (by omega) (by unfold maxLen; omega) (by omega) (by first | omega | (simp; omega)) (w4.heap.size + 1) (by simp) ?_; intro gg cap' w5 hown1 hgrow hat hlt; have hS5 := grow_cells hgrow hvb (by simp; have := hb5.size; omega) (KK.out _ (hb5.alloc hb5.size _)))))
        all_goals
          obtain ⟨q1, q0, q2⟩ := hS5
          have I5 := hide ((HI3.out.up (hb5.alloc hb5.size _)).grow hgrow (fun k e => (O3.lt k e).1) hhl hgl)
          have hl5 := hide (I5.out.hl.lenAt)
          have O5 := hide hown1
          clear hown1 hgrow hat hlt O3 O4 KK CL HI3 z0 z1 z2
          rcases hop with e | e
          all_goals
            rw [e] at q2
            go_wp2
            go_roundw
            case rel => exact ⟨pre ++ [x], l2, _, rfl, by rw [List.length_append]; simp; omega, by rw [HX.out, stE_open out x (by omega), e], I5, hide (by unfold MO; rw [HX.out, stE_open out x (by omega), List.length_append, encMr_app]; exact O5.out)⟩
            case measure => rw [hl5.out, hlc]; omega
      · have hne : out ≠ [] := hb.2.2.2 ho
        have hnl : 0 < out.length := List.length_pos_iff.2 hne
        obtain ⟨m, hm⟩ : ∃ m, out.length = m + 1 := ⟨out.length - 1, by omega⟩
        obtain ⟨r, cp, hv, hc1, hc2, hrb, hrl, hcl, hbk⟩ := own_cat HO'.out hnl
        subst hv
        have ho' : (o == 0) = false := by simpa using ho
        have hmi : (m : Int) < (m : Int) + 1 := by omega
        have hm0 : (0 : Int) ≤ (m : Int) := by omega
        have jw : IntKind.i64.wrap (m : Int) = (m : Int) := by rw [IntKind.wrap_i64] <;> omega
        have how : IntKind.i64.wrap (o + x.op) = o + x.op := by rw [IntKind.wrap_i64] <;> omega
        go_wp2_with fail
        refine HP.out.mono ?_
        rintro e w2 ⟨rfl, l2, k1, k2, k3, k4⟩
        have I2 := HN.out l2 w2 k1 k2 k3 k4
        have O2 := row_mv HO'.out k4 hhl hgl
        obtain ⟨y0, y1, y2⟩ := cellsE_new w2 (.string x.st) (.int .i64 x.at') (.int .i64 x.op)
        have z0 := y0 101
        have z1 := y1 101
        have z2 := y2 101
        have hb3 : Below w2.heap.size w2 (w2.alloc (.cells #[.string x.st, .int .i64 x.at', .int .i64 x.op] 101)) := (Below.refl _ _).alloc (Nat.le_refl _) _
        have I3 := I2.up hb3
        have O3 : (w2.alloc (.cells #[.string x.st, .int .i64 x.at', .int .i64 x.op] 101)).ownsRow w.heap.size 73 3 (.slice (some ⟨r, 0, none⟩) out.length cp) out.length (encMr out) := O2.alloc _
        have hl2 := k3.len
        rw [List.length_cons] at hl2
        by_cases h1 : o + x.op = 0
        · obtain ⟨T, ht, hrow⟩ := mr_last O3 hm x.at'
          have hfz : (w2.alloc (.cells #[.string x.st, .int .i64 x.at', .int .i64 x.op] 101)).frozen? ⟨r, m * 3 + 1, none⟩ = false := by
            obtain ⟨_, _, e, _, _, _, _, _, fk⟩ := own_cat O3 hnl
            cases e; exact fk.fz _
          have I4 := hide (I3.grow (grown_set (grown_refl _ _) (m * 3 + 1) (.int .i64 x.at')) (fun k e => by cases e; exact hrb) hhl hgl)
          have hl4 := hide (I4.out.hl.lenAt)
          have HR := hide hrow
          rw [hm]
          have h1b : (o + x.op == 0) = true := by simpa using h1
          have H1 := hide h1
          clear h1 k1 k2 k3 k4 I2 O2 I3 O3 HP HN y0 y1 y2 HO' hb3 hcl hbk hrow
          go_wp2
          refine ⟨⟨pre ++ [x], l2, _, rfl, by rw [List.length_append]; simp; omega, by rw [HX.out, stE_2], I4, hide ?_⟩, by rw [hl4.out, hlc]; omega⟩
          unfold MO
          rw [HX.out, stE_close out x ho H1.out, setTo_len, ← hm]
          exact HR.out
        · have h1' : (o + x.op == 0) = false := by simpa using h1
          have I4 := hide I3
          have O4 := hide O3
          have hl4 := hide (I4.out.hl.lenAt)
          clear k1 k2 k3 k4 I2 O2 I3 O3 HP HN y0 y1 y2 HO' hb3 hcl hbk
          rw [hm]
          go_wp2
          refine ⟨⟨pre ++ [x], l2, _, rfl, by rw [List.length_append]; simp; omega, by rw [HX.out, stE_2], I4, hide ?_⟩, by rw [hl4.out, hlc]; omega⟩
          unfold MO
          rw [HX.out, stE_stay out x ho h1, ← hm]
          exact O4.out
    · obtain rfl : l' = [] := List.length_eq_zero_iff.1 (by omega)
      have hpre : pre = S := srt_one ahE_ord HI.out.srt HSS.out (fun x => by have a1 := HI.out.sm.cnt x; have a2 := HC.out.cnt x; rw [List.append_nil] at a1; omega)
      subst hpre
      have O5 := HO.out
      unfold MO at O5
      have HM := hide HI.out.mv
      rcases O5.2 with ⟨hv, hn⟩ | ⟨r, cp, cur, hv, hrb, hh, k1, k2, k3, k4⟩
      · subst hv
        have HO5 := hide O5
        have Hn := hide hn
        clear O5 HO HI HSS HC hn
        go_wp2
        go_ret2
        refine ⟨?_, HM.out⟩
        unfold MkPost
        rw [if_neg (by rw [Hn.out]; omega)]
        exact ⟨_, rfl, HO5.out⟩
      · subst hv
        have HO5 := hide O5
        clear O5 HO HI HSS HC k4 hh k3
        by_cases h40 : 40 < (mkF pre).1.length
        · have h40' : (40 : Int) < ((mkF pre).1.length : Int) := by omega
          have H4 := hide h40
          clear h40
          go_wp2
          go_ret2
          refine ⟨?_, HM.out⟩
          unfold MkPost
          rw [if_pos H4.out]
          rfl
        · have h40' : ((mkF pre).1.length : Int) ≤ 40 := by omega
          have H4 := hide h40
          clear h40
          go_wp2
          go_ret2
          refine ⟨?_, HM.out⟩
          unfold MkPost
          rw [if_neg H4.out]
          exact ⟨_, rfl, HO5.out⟩
end Go.Proofs.YtknodkdlphngmawDoor
