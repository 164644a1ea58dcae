/- An end is pushed onto the heap. The first end is taken from the heap. A mark's two ends are pushed. -/
import Derived.Test.YtknodkdlphngmawDoorHeapW5
import Derived.Deep.RegionLaw
import Derived.Deep.AppendLies
import Derived.Maps.AppendAt
import Derived.Test.YtknodkdlphngmawDoorRowsMark
import Derived.Test.YtknodkdlphngmawDoorHeapQ
namespace Go.Proofs.YtknodkdlphngmawDoor
open Go.RowKit
open Doc1

theorem Tryd.infoEnd : (Tryd.prog.info? 101).map (fun i => (i.zero, i.size, i.bytes)) = some (some (.agg #[.string ⟨#[]⟩, .int .i64 0, .int .i64 0]), 3, 32) := by kernel_rfl
/-- The heap, with or without a row. -/
structure Hv (h : Nat) (v : Value) (l : List En) (w : World) : Prop where
  c : w.cell? ⟨h, 0, none⟩ = some v
  fz : w.frozen? ⟨h, 0, none⟩ = false
  own : w.ownsRow 0 101 3 v l.length (encE l)
  ne : v.ownBlock ≠ some h
def OV (h : Nat) (v : Value) (k : Nat) : Prop := k = h ∨ v.ownBlock = some k
theorem Hv.lt {h : Nat} {v : Value} {l : List En} {w : World} (H : Hv h v l w) : h < w.heap.size := World.block_lt_of_cell? w _ H.c
theorem Hv.ltO {h : Nat} {v : Value} {l : List En} {w : World} (H : Hv h v l w) {k : Nat} (hk : OV h v k) : k < w.heap.size := by
  rcases hk with rfl | e
  · exact H.lt
  · exact (H.own.lt k e).2
theorem Hv.kept {h : Nat} {v : Value} {l : List En} {w w2 : World} (H : Hv h v l w) (hk : ∀ k, OV h v k → w2.heap[k]? = w.heap[k]?) : Hv h v l w2 := by
  refine ⟨(World.cell?_of_block (hk h (.inl rfl))).trans H.c, (World.frozen?_of_block (hk h (.inl rfl))).trans H.fz, ⟨H.own.1, ?_⟩, H.ne⟩
  rcases H.own.2 with hn | ⟨g', cap, cur, hv, hb', hh, rest⟩
  · exact .inl hn
  · exact .inr ⟨g', cap, cur, hv, hb', (hk g' (.inr (by rw [hv]; rfl))).trans hh, rest⟩
theorem Hv.up {h : Nat} {v : Value} {l : List En} {w w2 : World} (H : Hv h v l w) (hb : Below w.heap.size w w2) : Hv h v l w2 := H.kept (fun k hk => hb.block k (H.ltO hk))
theorem Hv.hl {h g n cap : Nat} {l : List En} {w : World} (H : Hv h (.slice (some ⟨g, 0, none⟩) n cap) l w) : n = l.length ∧ Hl h g cap l w := by
  have hne : h ≠ g := fun e => H.ne (by rw [e]; rfl)
  rcases H.own.2 with ⟨hv, _⟩ | ⟨g', cap', cur, hv, hb', hh, h1, h2, h3, h4⟩
  · cases hv
  · cases hv
    refine ⟨rfl, ⟨cur.toList, ⟨H.c, H.fz, hne, by rw [hh], by simpa using h3, h1, h2⟩, h4⟩⟩
theorem Hl.hv {h g cap : Nat} {l : List En} {w : World} (H : Hl h g cap l w) : Hv h (.slice (some ⟨g, 0, none⟩) l.length cap) l w := by
  obtain ⟨cs, h1, h2⟩ := H.ex
  refine ⟨h1.c, h1.fz, ⟨encE_len l, .inr ⟨g, cap, cs.toArray, rfl, Nat.zero_le _, h1.row, h1.cap.1, h1.cap.2, by simpa using h1.len, by simpa using h2⟩⟩, fun e => h1.ne ?_⟩
  cases e; rfl
theorem grown_alE {w w2 : World} {ob : Obj} {row : Option Nat} (h : (w.alloc ob).drew.grownBy w2 row) : w.grownBy w2 row :=
  ⟨h.os, h.tape, h.output, Nat.le_trans (by show w.heap.size ≤ (w.alloc ob).heap.size; simp) h.size, fun k hk hn => (h.block k (by show k < (w.alloc ob).heap.size; simp; omega) hn).trans (Below.heap_alloc w ob k hk)⟩
theorem hv_put {h : Nat} {v v' : Value} {l l' : List En} {w w2 : World} (H : Hv h v l w) (hg : w.grownBy w2 v.ownBlock) (ho : w2.ownsRow 0 101 3 v' l'.length (encE l')) (hat : v'.ownBlock = v.ownBlock ∨ ∀ x, v'.ownBlock = some x → w.heap.size ≤ x) :
    Hv h v' l' (w2.setCell ⟨h, 0, none⟩ v') ∧ Moves (OV h v) w (OV h v') (w2.setCell ⟨h, 0, none⟩ v') := by
  have hlt := H.lt
  have hb : w2.heap[h]? = w.heap[h]? := hg.block h hlt (Ne.symm H.ne)
  have vg : v'.ownBlock ≠ some h := by
    rcases hat with e | e
    · rw [e]; exact H.ne
    · intro he; have := e h he; omega
  have far : ∀ k, k ≠ h → (w2.setCell ⟨h, 0, none⟩ v').heap[k]? = w2.heap[k]? := fun k hk => Below.heap_setCell _ _ _ _ hk
  refine ⟨⟨World.cell?_setCell_same _ _ _ ((World.cell?_of_block hb).trans H.c), by rw [World.frozen?_setCell]; exact (World.frozen?_of_block hb).trans H.fz, set_kept ho vg, vg⟩, ?_⟩
  refine ⟨hg.os, hg.tape, hg.output, by simpa using hg.size, fun k hk no => ?_, fun k hk c => ?_⟩
  · exact (far k (fun e => no (.inl e))).trans (hg.block k hk (fun e => no (.inr e.symm)))
  · rcases c with e | e
    · exact .inl e
    · rcases hat with e' | e'
      · exact .inr (e' ▸ e)
      · have := e' k e; omega
theorem rise_at {h g cap : Nat} {l : List En} {w : World} (H : Hl h g cap l w) {i : Nat} (hi : i < l.length) (hx : HpX dE ahE l i) (hl : l.length ≤ 1000000) {a : Int} (ha : a = i) :
    Calls Tryd.prog 65 #[.int .i64 a, .func (.func 66) #[.pointer (some ⟨h, 0, none⟩)] #[], .func (.func 67) #[.pointer (some ⟨h, 0, none⟩)] #[]] w fun e w' => e = .returned (.tuple #[]) ∧ ∃ l', Same l l' ∧ Hp dE ahE l' ∧ Hl h g cap l' w' ∧ Moves (fun k => k = g) w (fun k => k = g) w' := by
  subst ha; exact rise_any H hi hx hl
theorem sink_at {h g cap : Nat} {l : List En} {w : World} (H : Hl h g cap l w) (hx : HpS dE ahE l 0) (hl : l.length ≤ 1000000) {a : Int} (ha : a = l.length) :
    Calls Tryd.prog 68 #[.int .i64 a, .func (.func 66) #[.pointer (some ⟨h, 0, none⟩)] #[], .func (.func 67) #[.pointer (some ⟨h, 0, none⟩)] #[]] w fun e w' => e = .returned (.tuple #[]) ∧ ∃ l', Same l l' ∧ Hp dE ahE l' ∧ Hl h g cap l' w' ∧ Moves (fun k => k = g) w (fun k => k = g) w' := by
  subst ha; exact sink_any H hx hl
theorem cellsE_new (w : World) (a b c : Value) : (∀ t, (w.alloc (.cells #[a, b, c] t)).cell? ⟨w.heap.size, 0, none⟩ = some a) ∧ (∀ t, (w.alloc (.cells #[a, b, c] t)).cell? ⟨w.heap.size, 1, none⟩ = some b) ∧ (∀ t, (w.alloc (.cells #[a, b, c] t)).cell? ⟨w.heap.size, 2, none⟩ = some c) := by
  refine ⟨fun t => ?_, fun t => ?_, fun t => ?_⟩
  all_goals
    unfold World.cell?
    rw [heap_alloc_new]; rfl

set_option maxRecDepth 100000 in
set_option maxHeartbeats 4000000 in
theorem push_any {h : Nat} {v : Value} {l : List En} {w : World} (H : Hv h v l w) (hp : Hp dE ahE l) (x : En) (hl : l.length ≤ 100000) :
    Calls Tryd.prog 55 #[.pointer (some ⟨h, 0, none⟩), enV x] w fun e w' => e = .returned (.tuple #[]) ∧ ∃ v' l', Hv h v' l' w' ∧ Hp dE ahE l' ∧ Same (l ++ [x]) l' ∧ Moves (OV h v) w (OV h v') w' := by
  obtain ⟨i0, hi0, hz0, hz1, hz2⟩ := info_parts Tryd.infoEnd
  obtain ⟨y0, y1, y2⟩ := cellsE_new w (.string x.st) (.int .i64 x.at') (.int .i64 x.op)
  obtain ⟨w0, hw0⟩ : ∃ w0, w0 = w.alloc (.cells #[.string x.st, .int .i64 x.at', .int .i64 x.op] 101) := ⟨_, rfl⟩
  have z0 := y0 101
  have z1 := y1 101
  have z2 := y2 101
  rw [← hw0] at z0 z1 z2
  have hbw : Below w.heap.size w w0 := by rw [hw0]; exact (Below.refl _ _).alloc (Nat.le_refl _) _
  have H1 := H.up hbw
  have k0 := H1.c
  have kf := H1.fz
  have own0 := H1.own
  have ne0 := H1.ne
  have lg := H1.lt
  have HH := hide H1
  have HB := hide hbw
  have HP := hide hp
  clear H H1 hbw hp y0 y1 y2
  unfold enV
  go_enter Tryd.func55, Tryd.ntmps55
  go_wp2_with fail
  rw [← hw0]
  clear hw0
  go_region_law
    ((refine step_append_lies _ (by rfl) _ _ _ (by rfl) 0 101 i0 _ 3 32 Tryd.underlying76 hi0 hz0 hz1 hz2 rfl (by omega) v l.length (encE l) (by rfl) ((own0.alloc _).drew)
        ⟨w0.heap.size, 0, none⟩ 1 1 [.string x.st, .int .i64 x.at', .int .i64 x.op] (by rfl) (by rfl) (World.news_of_block (cs := #[.string x.st, .int .i64 x.at', .int .i64 x.op]) (t := 101) (fr := (0, 0)) (heap_alloc_new w0 _)) (by simp [Value.oneCell'])
        (by omega) (by unfold maxLen; omega) (by omega) (by omega) (w0.heap.size + 1) (by simp) ?_; intro gg cap w2 hown1 hgrow hat hlt; have hfz := (hgrow.frozen_far ⟨h, 0, none⟩ (by simp; omega) (Ne.symm ne0)).trans (fz_al w0 _ _ lg kf); have hcz := (hgrow.cell_far ⟨h, 0, none⟩ (by simp; omega) (Ne.symm ne0)).trans (cl_al w0 _ _ k0)))
  all_goals
    obtain ⟨T, M⟩ := hv_put (l' := l ++ [x]) (v' := .slice (some ⟨gg, 0, none⟩) (l.length + 1) cap) HH.out (grown_alE hgrow) (by rw [encE_app, List.length_append]; exact hown1) (by
      rcases hat with e | e
      · exact .inl e.symm
      · exact .inr (fun y hy => by have : gg = y := by injection hy
                                   omega))
    have L := T.hl.2
    have q0 := T.c
    have R := hide (fun w3 (hb : Below (w2.setCell ⟨h, 0, none⟩ (.slice (some ⟨gg, 0, none⟩) (l.length + 1) cap)).heap.size (w2.setCell ⟨h, 0, none⟩ (.slice (some ⟨gg, 0, none⟩) (l.length + 1) cap)) w3) => rise_at (L.up hb) (i := l.length) (by simp) (hp_push HP.out x) (by simp; omega) (a := (l.length : Int)) rfl)
    have HM := hide M
    clear T M L k0 kf own0 ne0 lg HH z0 z1 z2 hown1 hgrow hat hlt hfz hcz hi0 hz0 hz1 hz2
    go_wp2_with (go_at_call 65; refine (R.out _ (by first | exact Below.refl _ _ | exact (Below.refl _ _).drew)).mono ?_; rintro e w3 ⟨rfl, l', hs, hh, hl3, hm3⟩)
    go_end0
    refine ⟨rfl, _, l', hl3.hv, hh, hs, ((mv_up HB.out).trans HM.out).trans ?_⟩
    rw [show l'.length = l.length + 1 by rw [hs.len]; simp]
    exact hm3.wider (fun k _ e => .inr (by rw [e]; rfl)) (fun k _ c => c)
end Go.Proofs.YtknodkdlphngmawDoor

namespace Go.Proofs.YtknodkdlphngmawDoor
open Go.RowKit
open Doc1

theorem Hl.cut {h g cap : Nat} {l : List En} {w : World} (H : Hl h g cap l w) {m : Nat} (hm : m ≤ l.length) : Hl h g cap (l.take m) (w.setCell ⟨h, 0, none⟩ (.slice (some ⟨g, 0, none⟩) m cap)) := by
  obtain ⟨cs, h1, h2⟩ := H.ex
  have hlen : (l.take m).length = m := by rw [List.length_take]; omega
  refine ⟨cs, ?_, ?_⟩
  · rw [hlen]
    refine ⟨World.cell?_setCell_same _ _ _ h1.c, by rw [World.frozen?_setCell]; exact h1.fz, h1.ne, (Below.heap_setCell _ _ _ _ (Ne.symm h1.ne)).trans h1.row, h1.len, ?_⟩
    have := h1.cap
    omega
  · rw [hlen]
    have e : encE l = encE (l.take m) ++ encE (l.drop m) := by rw [← encE_app, List.take_append_drop]
    have : cs.take (m * 3) = (cs.take (l.length * 3)).take (m * 3) := by rw [List.take_take, Nat.min_eq_left (by omega)]
    rw [this, h2, e, List.take_left' (by rw [encE_len, hlen])]
theorem Tryd.sizeEnd : (Tryd.prog.info? 101).map (·.size) = some 3 := by kernel_rfl
theorem row1_set {w : World} {g : Nat} {cs : Array Value} {t : TypeId} {fr : Nat × Nat} (h : w.heap[g]? = some (.cells cs t fr)) (j : Nat) (v : Value) : (w.setCell ⟨g, j, none⟩ v).heap[g]? = some (.cells (cs.set! j v) t fr) := by
  have hl : g < w.heap.size := (Array.getElem?_eq_some_iff.1 h).1
  show (w.heap.modify g _)[g]? = _
  rw [Array.getElem?_eq_getElem (by rw [Array.size_modify]; exact hl), Array.getElem_modify_self]
  have e : w.heap[g] = .cells cs t fr := by rw [Array.getElem?_eq_getElem hl] at h; exact Option.some.inj h
  rw [e]
  rfl
theorem row3_set {w : World} {g : Nat} {a b c : Value} {t : TypeId} {fr : Nat × Nat} (h : w.heap[g]? = some (.cells #[a, b, c] t fr)) (x y z : Value) : (((w.setCell ⟨g, 0, none⟩ x).setCell ⟨g, 1, none⟩ y).setCell ⟨g, 2, none⟩ z).heap[g]? = some (.cells #[x, y, z] t fr) := row1_set (row1_set (row1_set h 0 x) 1 y) 2 z
theorem pop_same {l : List En} (h : 0 < l.length) : Same l (l[0] :: (sw dE l 0 (l.length - 1)).take (l.length - 1)) := by
  have hs := same_sw (i := 0) (j := l.length - 1) h (by omega)
  have hl : (sw dE l 0 (l.length - 1)).length = l.length := hs.len
  have e : (sw dE l 0 (l.length - 1)) = (sw dE l 0 (l.length - 1)).take (l.length - 1) ++ [l[0]] := by
    have hd : (sw dE l 0 (l.length - 1)).drop (l.length - 1) = [l[0]] := by
      rw [List.drop_eq_getElem_cons (by omega), List.drop_eq_nil_of_le (by omega)]
      congr 1
      have := gt_sw (d := dE) (l := l) (i := 0) (j := l.length - 1) h (by omega) (l.length - 1)
      rw [if_pos rfl, gt_at h, gt_at (by omega)] at this
      exact this
    rw [← hd, List.take_append_drop]
  refine ⟨by rw [List.length_cons, List.length_take]; omega, fun x => ?_⟩
  rw [← hs.cnt x]
  conv => rhs; rw [e]
  rw [List.count_cons, List.count_append, List.count_singleton]

set_option maxRecDepth 100000 in
set_option maxHeartbeats 4000000 in
theorem pop_any {h g cap : Nat} {l : List En} {w : World} (H : Hl h g cap l w) (hp : Hp dE ahE l) (hl : l.length ≤ 1000000) (h0 : 0 < l.length) :
    Calls Tryd.prog 56 #[.pointer (some ⟨h, 0, none⟩)] w fun e w' => e = .returned (enV l[0]) ∧ ∃ l', Hl h g cap l' w' ∧ Hp dE ahE l' ∧ Same l (l[0] :: l') ∧ Moves (fun k => k = h ∨ k = g) w (fun k => k = h ∨ k = g) w' := by
  obtain ⟨n, hn⟩ : ∃ n, l.length = n + 1 := ⟨l.length - 1, by omega⟩
  have hc : w.cell? ⟨h, 0, none⟩ = some (.slice (some ⟨g, 0, none⟩) (n + 1) cap) := by obtain ⟨cs, h1, _⟩ := H.ex; rw [← hn]; exact h1.c
  have hcap : n + 1 ≤ cap ∧ cap ≤ maxLen := by obtain ⟨cs, h1, _⟩ := H.ex; rw [← hn]; exact h1.cap
  have hh := World.block_lt_of_cell? w _ hc
  have hg : g < w.heap.size := by obtain ⟨cs, h1, _⟩ := H.ex; exact h1.glt
  have jw : IntKind.i64.wrap (n : Int) = (n : Int) := by rw [IntKind.wrap_i64] <;> omega
  have n0 : (0 : Int) ≤ (n : Int) := by omega
  have n1 : (n : Int) < (n : Int) + 1 := by omega
  obtain ⟨y0, y1, y2⟩ := cellsE_new w (.string ⟨#[]⟩) (.int .i64 0) (.int .i64 0)
  obtain ⟨w1, hw1⟩ : ∃ w1, w1 = w.alloc (.cells #[.string ⟨#[]⟩, .int .i64 0, .int .i64 0] 101) := ⟨_, rfl⟩
  have z0 := y0 101
  have z1 := y1 101
  have z2 := y2 101
  have zf : ∀ j, w1.frozen? ⟨w.heap.size, j, none⟩ = false := fun j => by rw [hw1]; exact World.frozen?_alloc_new _ _ _ _
  have zb : w1.heap[w.heap.size]? = some (.cells #[.string ⟨#[]⟩, .int .i64 0, .int .i64 0] 101 (0, 0)) := by rw [hw1]; exact heap_alloc_new _ _
  have ZB := hide zb
  clear zb
  have zs : w1.heap.size = w.heap.size + 1 := by rw [hw1]; simp
  rw [← hw1] at z0 z1 z2
  have hbw : Below w.heap.size w w1 := by rw [hw1]; exact (Below.refl _ _).alloc (Nat.le_refl _) _
  have hc1 : w1.cell? ⟨h, 0, none⟩ = some (.slice (some ⟨g, 0, none⟩) (n + 1) cap) := (World.cell?_of_block (hbw.block _ hh)).trans hc
  have HS := hide (swap_at (H.up hbw) h0 (j := n) (by omega) (a := 0) (b := (n : Int)) rfl rfl)
  have HP := hide hp
  have HB := hide hbw
  have hsl : (sw dE l 0 n).length = n + 1 := by rw [sw_len]; exact hn
  have hsn : (sw dE l 0 n)[n] = l[0] := by
    have := gt_sw (d := dE) (l := l) (i := 0) (j := n) h0 (by omega) n
    rw [if_pos rfl, gt_at h0, gt_at (by omega)] at this
    exact this
  obtain ⟨x, hx⟩ : ∃ x, x = l[0] := ⟨_, rfl⟩
  have HT := hide (pop_same h0)
  rw [show l.length - 1 = n by omega] at HT
  rw [← hx] at hsn HT ⊢
  clear hx
  have hca := hc1
  rw [hw1] at hca
  clear H hp y0 y1 y2 hbw hc
  unfold enV
  go_enter Tryd.func56, Tryd.ntmps56
  go_wp2_with fail
  rw [← hw1]
  clear hw1 hca
  refine HS.out.mono ?_
  rintro e w3 ⟨rfl, hl3, hm3⟩
  have hr : w3.heap[w.heap.size]? = w1.heap[w.heap.size]? := hm3.same _ (by omega) (by omega)
  have HR3 := hide (hr.trans ZB.out)
  have r0 := (World.cell?_of_block (a := ⟨w.heap.size, 0, none⟩) hr).trans z0
  have r1 := (World.cell?_of_block (a := ⟨w.heap.size, 1, none⟩) hr).trans z1
  have r2 := (World.cell?_of_block (a := ⟨w.heap.size, 2, none⟩) hr).trans z2
  have rf : ∀ j, w3.frozen? ⟨w.heap.size, j, none⟩ = false := fun j => (World.frozen?_of_block (a := ⟨w.heap.size, j, none⟩) hr).trans (zf j)
  have hs3 : w.heap.size < w3.heap.size := Nat.lt_of_lt_of_le (by omega) hm3.size
  obtain ⟨t0, t1, t2⟩ := hl3.cells (i := n) (by omega)
  rw [hsn] at t0 t1 t2
  have c3 : w3.cell? ⟨h, 0, none⟩ = some (.slice (some ⟨g, 0, none⟩) (n + 1) cap) := by obtain ⟨cs, h1, _⟩ := hl3.ex; rw [← hsl]; exact h1.c
  have cf : w3.frozen? ⟨h, 0, none⟩ = false := by obtain ⟨cs, h1, _⟩ := hl3.ex; exact h1.fz
  obtain ⟨y0, y1, y2⟩ := cellsE_new (w3.setCell ⟨h, 0, none⟩ (.slice (some ⟨g, 0, none⟩) n cap)) (.string x.st) (.int .i64 x.at') (.int .i64 x.op)
  have HK := hide (hp_pop HP.out h0)
  rw [show l.length - 1 = n by omega] at HK
  have hb4 : Below w3.heap.size w3 (w3.alloc (.cells #[.string x.st, .int .i64 x.at', .int .i64 x.op] 101)) := (Below.refl _ _).alloc (Nat.le_refl _) _
  have hh3 : h < w3.heap.size := by omega
  have c4 : (w3.alloc (.cells #[.string x.st, .int .i64 x.at', .int .i64 x.op] 101)).cell? ⟨h, 0, none⟩ = some (.slice (some ⟨g, 0, none⟩) (n + 1) cap) := (World.cell?_of_block (hb4.block _ hh3)).trans c3
  have cf4 : (w3.alloc (.cells #[.string x.st, .int .i64 x.at', .int .i64 x.op] 101)).frozen? ⟨h, 0, none⟩ = false := (World.frozen?_of_block (a := ⟨h, 0, none⟩) (hb4.block _ hh3)).trans cf
  have hsz : (w3.setCell ⟨h, 0, none⟩ (.slice (some ⟨g, 0, none⟩) n cap)).heap.size = w3.heap.size := by simp [World.setCell]
  have HC := hide (sink_at ((hl3.cut (m := n) (by omega)).up ((Below.refl _ _).alloc (Nat.le_refl _) (.cells #[.string x.st, .int .i64 x.at', .int .i64 x.op] 101))) HK.out (by rw [List.length_take]; omega) (a := (n : Int)) (by rw [List.length_take]; omega))
  rw [hsz] at y0 y1 y2
  have Y0 := hide (y0 101)
  have Y1 := hide (y1 101)
  have Y2 := hide (y2 101)
  have HM := hide hm3
  have H4 := hide hb4
  clear hl3 hm3 HS HP hsl hsn hr z0 z1 z2 zf hc1 HK y0 y1 y2 hb4
  go_wp2_with fail
  refine HC.out.mono ?_
  rintro e w5 ⟨rfl, l', hs, hp5, hl5, hm5⟩
  have hs5 : ((w3.setCell ⟨h, 0, none⟩ (.slice (some ⟨g, 0, none⟩) n cap)).alloc (.cells #[.string x.st, .int .i64 x.at', .int .i64 x.op] 101)).heap.size = w3.heap.size + 1 := by rw [World.size_alloc, hsz]
  have far : ∀ k, k < w3.heap.size + 1 → k ≠ g → w5.heap[k]? = ((w3.setCell ⟨h, 0, none⟩ (.slice (some ⟨g, 0, none⟩) n cap)).alloc (.cells #[.string x.st, .int .i64 x.at', .int .i64 x.op] 101)).heap[k]? := fun k hk h2 => hm5.same k (by rw [hs5]; exact hk) h2
  have u0 := (World.cell?_of_block (a := ⟨w3.heap.size, 0, none⟩) (far w3.heap.size (by omega) (by omega))).trans Y0.out
  have u1 := (World.cell?_of_block (a := ⟨w3.heap.size, 1, none⟩) (far w3.heap.size (by omega) (by omega))).trans Y1.out
  have u2 := (World.cell?_of_block (a := ⟨w3.heap.size, 2, none⟩) (far w3.heap.size (by omega) (by omega))).trans Y2.out
  have fr : w5.heap[w.heap.size]? = w3.heap[w.heap.size]? := (far _ (by omega) (by omega)).trans ((Below.heap_alloc (w3.setCell ⟨h, 0, none⟩ (.slice (some ⟨g, 0, none⟩) n cap)) (.cells #[.string x.st, .int .i64 x.at', .int .i64 x.op] 101) _ (by rw [hsz]; exact hs3)).trans (Below.heap_setCell _ _ _ _ (by show w.heap.size ≠ h; omega)))
  have HR5 := hide (row3_set (fr.trans HR3.out) (.string x.st) (.int .i64 x.at') (.int .i64 x.op))
  have v0 := (World.cell?_of_block (a := ⟨w.heap.size, 0, none⟩) fr).trans r0
  have v1 := (World.cell?_of_block (a := ⟨w.heap.size, 1, none⟩) fr).trans r1
  have v2 := (World.cell?_of_block (a := ⟨w.heap.size, 2, none⟩) fr).trans r2
  have vf : ∀ j, w5.frozen? ⟨w.heap.size, j, none⟩ = false := fun j => (World.frozen?_of_block (a := ⟨w.heap.size, j, none⟩) fr).trans (rf j)
  have HM5 := hide hm5
  have HL5 := hide hl5
  have HP5 := hide hp5
  have HS5 := hide hs
  clear far fr hm5 hl5 hp5 hs r0 r1 r2 rf t0 t1 t2 c3 cf c4 cf4 HC Y0 Y1 Y2
  go_wp2
  (try simp only [Exit.inBlock, Exit.then])
  refine bodyPost_ret (results_cell_row rfl _ _ w.heap.size 101 #[.string x.st, .int .i64 x.at', .int .i64 x.op] (0, 0) _ rfl HR5.out Tryd.underlying101 rfl Tryd.sizeEnd) rfl ?_
  have hrh : w.heap.size ≠ h := by omega
  have hrg : w.heap.size ≠ g := by omega
  refine ⟨rfl, l', ?_, HP5.out, ?_, ?_⟩
  · obtain ⟨cs, k1, k2⟩ := HL5.out.ex
    refine ⟨cs, k1.kept ?_ ?_, k2⟩
    · rw [Below.heap_setCell _ _ _ _ (Ne.symm hrh), Below.heap_setCell _ _ _ _ (Ne.symm hrh), Below.heap_setCell _ _ _ _ (Ne.symm hrh)]
    · rw [Below.heap_setCell _ _ _ _ (Ne.symm hrg), Below.heap_setCell _ _ _ _ (Ne.symm hrg), Below.heap_setCell _ _ _ _ (Ne.symm hrg)]
  · exact HT.out.trans ⟨by rw [List.length_cons, List.length_cons, HS5.out.len], fun y => by rw [List.count_cons, List.count_cons, HS5.out.cnt y]⟩
  · have m0 : Moves (fun k => k = h ∨ k = g) w (fun k => k = h ∨ k = g) w1 := mv_up HB.out
    have m1 : Moves (fun k => k = h ∨ k = g) w1 (fun k => k = h ∨ k = g) w3 := HM.out.wider (fun k _ e => .inr e) (fun k _ e => e)
    have m2 := (((m0.trans m1).setCell (p := ⟨h, 0, none⟩) (fun _ => .inl rfl) (.slice (some ⟨g, 0, none⟩) n cap)).trans (mv_up ((Below.refl _ _).alloc (Nat.le_refl _) (.cells #[.string x.st, .int .i64 x.at', .int .i64 x.op] 101)))).trans (HM5.out.wider (A' := fun k => k = h ∨ k = g) (B' := fun k => k = h ∨ k = g) (fun k _ e => .inr e) (fun k _ e => e))
    have nl : ∀ j, (⟨w.heap.size, j, none⟩ : Addr).block < w.heap.size → ((⟨w.heap.size, j, none⟩ : Addr).block = h ∨ (⟨w.heap.size, j, none⟩ : Addr).block = g) := fun j c => absurd c (by show ¬ w.heap.size < w.heap.size; omega)
    exact ((m2.setCell (nl 0) _).setCell (nl 1) _).setCell (nl 2) _
end Go.Proofs.YtknodkdlphngmawDoor

namespace Go.Proofs.YtknodkdlphngmawDoor
open Go.RowKit
open Doc1

set_option maxRecDepth 100000 in
set_option maxHeartbeats 4000000 in
theorem pushMark_any {h : Nat} {v : Value} {l : List En} {w : World} (H : Hv h v l w) (hp : Hp dE ahE l) (m : Mk) (hl : l.length ≤ 90000) :
    Calls Tryd.prog 39 #[.pointer (some ⟨h, 0, none⟩), mrV m] w fun e w' => e = .returned (.tuple #[]) ∧ ∃ v' l', Hv h v' l' w' ∧ Hp dE ahE l' ∧ Same (l ++ endsOf m) l' ∧ Moves (OV h v) w (OV h v') w' := by
  obtain ⟨y0, y1, y2⟩ := cellsE_new w (.int .i64 m.frm) (.int .i64 m.to) (.string m.style)
  have z0 := y0 73
  have z1 := y1 73
  have z2 := y2 73
  have hbw : Below w.heap.size w (w.alloc (.cells #[.int .i64 m.frm, .int .i64 m.to, .string m.style] 73)) := (Below.refl _ _).alloc (Nat.le_refl _) _
  unfold mrV
  by_cases hft : m.frm < m.to
  · have he : endsOf m = [opE m, clE m] := if_pos hft
    have P1 := push_any (H.up hbw) hp (opE m) (by omega)
    unfold enV opE at P1
    have HP1 := hide P1
    have HH := hide H
    have HB := hide hbw
    clear H hp hbw P1 y0 y1 y2
    go_enter Tryd.func39, Tryd.ntmps39
    go_wp2_with fail
    refine HP1.out.mono ?_
    rintro e w2 ⟨rfl, v2, l2, hv2, hp2, hs2, hm2⟩
    have hbx : w2.heap[w.heap.size]? = (w.alloc (.cells #[.int .i64 m.frm, .int .i64 m.to, .string m.style] 73)).heap[w.heap.size]? := hm2.same _ (by simp) (fun c => absurd (HH.out.ltO c) (by omega))
    have b1 := (World.cell?_of_block (a := ⟨w.heap.size, 1, none⟩) hbx).trans z1
    have b2 := (World.cell?_of_block (a := ⟨w.heap.size, 2, none⟩) hbx).trans z2
    have P2 := push_any hv2 hp2 (clE m) (by rw [hs2.len]; simp; omega)
    unfold enV clE at P2
    have HP2 := hide P2
    have HM := hide hm2
    have HS := hide hs2
    clear P2 hv2 hp2 hs2 hm2 z0 z1 z2 hbx
    go_wp2_with fail
    refine HP2.out.mono ?_
    rintro e w3 ⟨rfl, v3, l3, hv3, hp3, hs3, hm3⟩
    go_wp2
    go_end0
    refine ⟨rfl, v3, l3, hv3, hp3, ?_, ((mv_up HB.out).trans HM.out).trans hm3⟩
    rw [he]
    refine ⟨by rw [hs3.len, List.length_append, HS.out.len]; simp [opE], fun x => ?_⟩
    have e1 := HS.out.cnt x
    have e2 := hs3.cnt x
    rw [List.count_append] at e1 e2
    rw [e2, e1, List.count_append, Nat.add_assoc]
    congr 1
    rw [show [opE m, clE m] = [opE m] ++ [clE m] from rfl, List.count_append]
    rfl
  · rw [show endsOf m = [] from if_neg hft, List.append_nil]
    have HH := hide H
    have HP := hide hp
    have HB := hide hbw
    clear H hp hbw y0 y1 y2
    go_enter Tryd.func39, Tryd.ntmps39
    go_wp2
    go_end0
    refine ⟨rfl, v, l, HH.out.up HB.out, HP.out, ?_, mv_up HB.out⟩
    exact Same.refl l
end Go.Proofs.YtknodkdlphngmawDoor
