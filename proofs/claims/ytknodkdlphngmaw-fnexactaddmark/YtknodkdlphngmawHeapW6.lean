/- An end is pushed onto the heap. -/
import Derived.Test.YtknodkdlphngmawHeapW5
import Derived.Deep.RegionLaw
import Derived.Deep.AppendLies
import Derived.Maps.AppendAt
namespace Go.Proofs.Ytknodkdlphngmaw
open Go.RowKit
open Doc1

theorem Try.infoEnd : (Try.prog.info? 61).map (fun i => (i.zero, i.size, i.bytes)) = some (some (.agg #[.string ⟨#[]⟩, .int .i64 0, .int .i64 0]), 3, 32) := by kernel_rfl
/-- The heap, with or without a row. -/
structure Hv (h : Nat) (v : Value) (l : List En) (w : World) : Prop where
  c : w.cell? ⟨h, 0, none⟩ = some v
  fz : w.frozen? ⟨h, 0, none⟩ = false
  own : w.ownsRow 0 61 3 v l.length (encE l)
  ne : v.ownBlock ≠ some h
def OV (h : Nat) (v : Value) (k : Nat) : Prop := k = h ∨ v.ownBlock = some k
theorem Hv.lt {h : Nat} {v : Value} {l : List En} {w : World} (H : Hv h v l w) : h < w.heap.size := World.block_lt_of_cell? w _ H.c
theorem Hv.ltO {h : Nat} {v : Value} {l : List En} {w : World} (H : Hv h v l w) {k : Nat} (hk : OV h v k) : k < w.heap.size := by
  rcases hk with rfl | e
  · exact H.lt
  · exact (H.own.lt k e).2
theorem Hv.kept {h : Nat} {v : Value} {l : List En} {w w2 : World} (H : Hv h v l w) (hk : ∀ k, OV h v k → w2.heap[k]? = w.heap[k]?) : Hv h v l w2 := by
  refine ⟨(World.cell?_of_block (hk h (.inl rfl))).trans H.c, (World.frozen?_of_block (hk h (.inl rfl))).trans H.fz, ⟨H.own.1, ?_⟩, H.ne⟩
  rcases H.own.2 with hn | ⟨g', cap, cur, hv, hb', hh, rest⟩
  · exact .inl hn
  · exact .inr ⟨g', cap, cur, hv, hb', (hk g' (.inr (by rw [hv]; rfl))).trans hh, rest⟩
theorem Hv.up {h : Nat} {v : Value} {l : List En} {w w2 : World} (H : Hv h v l w) (hb : Below w.heap.size w w2) : Hv h v l w2 := H.kept (fun k hk => hb.block k (H.ltO hk))
theorem Hv.hl {h g n cap : Nat} {l : List En} {w : World} (H : Hv h (.slice (some ⟨g, 0, none⟩) n cap) l w) : n = l.length ∧ Hl h g cap l w := by
  have hne : h ≠ g := fun e => H.ne (by rw [e]; rfl)
  rcases H.own.2 with ⟨hv, _⟩ | ⟨g', cap', cur, hv, hb', hh, h1, h2, h3, h4⟩
  · cases hv
  · cases hv
    refine ⟨rfl, ⟨cur.toList, ⟨H.c, H.fz, hne, by rw [hh], by simpa using h3, h1, h2⟩, h4⟩⟩
theorem Hl.hv {h g cap : Nat} {l : List En} {w : World} (H : Hl h g cap l w) : Hv h (.slice (some ⟨g, 0, none⟩) l.length cap) l w := by
  obtain ⟨cs, h1, h2⟩ := H.ex
  refine ⟨h1.c, h1.fz, ⟨encE_len l, .inr ⟨g, cap, cs.toArray, rfl, Nat.zero_le _, h1.row, h1.cap.1, h1.cap.2, by simpa using h1.len, by simpa using h2⟩⟩, fun e => h1.ne ?_⟩
  cases e; rfl
theorem grown_alE {w w2 : World} {ob : Obj} {row : Option Nat} (h : (w.alloc ob).drew.grownBy w2 row) : w.grownBy w2 row :=
  ⟨h.os, h.tape, h.output, Nat.le_trans (by show w.heap.size ≤ (w.alloc ob).heap.size; simp) h.size, fun k hk hn => (h.block k (by show k < (w.alloc ob).heap.size; simp; omega) hn).trans (Below.heap_alloc w ob k hk)⟩
theorem hv_put {h : Nat} {v v' : Value} {l l' : List En} {w w2 : World} (H : Hv h v l w) (hg : w.grownBy w2 v.ownBlock) (ho : w2.ownsRow 0 61 3 v' l'.length (encE l')) (hat : v'.ownBlock = v.ownBlock ∨ ∀ x, v'.ownBlock = some x → w.heap.size ≤ x) :
    Hv h v' l' (w2.setCell ⟨h, 0, none⟩ v') ∧ Moves (OV h v) w (OV h v') (w2.setCell ⟨h, 0, none⟩ v') := by
  have hlt := H.lt
  have hb : w2.heap[h]? = w.heap[h]? := hg.block h hlt (Ne.symm H.ne)
  have vg : v'.ownBlock ≠ some h := by
    rcases hat with e | e
    · rw [e]; exact H.ne
    · intro he; have := e h he; omega
  have far : ∀ k, k ≠ h → (w2.setCell ⟨h, 0, none⟩ v').heap[k]? = w2.heap[k]? := fun k hk => Below.heap_setCell _ _ _ _ hk
  refine ⟨⟨World.cell?_setCell_same _ _ _ ((World.cell?_of_block hb).trans H.c), by rw [World.frozen?_setCell]; exact (World.frozen?_of_block hb).trans H.fz, set_kept ho vg, vg⟩, ?_⟩
  refine ⟨hg.os, hg.tape, hg.output, by simpa using hg.size, fun k hk no => ?_, fun k hk c => ?_⟩
  · exact (far k (fun e => no (.inl e))).trans (hg.block k hk (fun e => no (.inr e.symm)))
  · rcases c with e | e
    · exact .inl e
    · rcases hat with e' | e'
      · exact .inr (e' ▸ e)
      · have := e' k e; omega
theorem rise_at {h g cap : Nat} {l : List En} {w : World} (H : Hl h g cap l w) {i : Nat} (hi : i < l.length) (hx : HpX dE ahE l i) (hl : l.length ≤ 1000000) {a : Int} (ha : a = i) :
    Calls Try.prog 37 #[.int .i64 a, .func (.func 38) #[.pointer (some ⟨h, 0, none⟩)] #[], .func (.func 39) #[.pointer (some ⟨h, 0, none⟩)] #[]] w fun e w' => e = .returned (.tuple #[]) ∧ ∃ l', Same l l' ∧ Hp dE ahE l' ∧ Hl h g cap l' w' ∧ Moves (fun k => k = g) w (fun k => k = g) w' := by
  subst ha; exact rise_any H hi hx hl
theorem sink_at {h g cap : Nat} {l : List En} {w : World} (H : Hl h g cap l w) (hx : HpS dE ahE l 0) (hl : l.length ≤ 1000000) {a : Int} (ha : a = l.length) :
    Calls Try.prog 40 #[.int .i64 a, .func (.func 38) #[.pointer (some ⟨h, 0, none⟩)] #[], .func (.func 39) #[.pointer (some ⟨h, 0, none⟩)] #[]] w fun e w' => e = .returned (.tuple #[]) ∧ ∃ l', Same l l' ∧ Hp dE ahE l' ∧ Hl h g cap l' w' ∧ Moves (fun k => k = g) w (fun k => k = g) w' := by
  subst ha; exact sink_any H hx hl
theorem cellsE_new (w : World) (a b c : Value) : (∀ t, (w.alloc (.cells #[a, b, c] t)).cell? ⟨w.heap.size, 0, none⟩ = some a) ∧ (∀ t, (w.alloc (.cells #[a, b, c] t)).cell? ⟨w.heap.size, 1, none⟩ = some b) ∧ (∀ t, (w.alloc (.cells #[a, b, c] t)).cell? ⟨w.heap.size, 2, none⟩ = some c) := by
  refine ⟨fun t => ?_, fun t => ?_, fun t => ?_⟩
  all_goals
    unfold World.cell?
    rw [heap_alloc_new]; rfl

set_option maxRecDepth 100000 in
set_option maxHeartbeats 4000000 in
theorem push_any {h : Nat} {v : Value} {l : List En} {w : World} (H : Hv h v l w) (hp : Hp dE ahE l) (x : En) (hl : l.length ≤ 100000) :
    Calls Try.prog 34 #[.pointer (some ⟨h, 0, none⟩), enV x] w fun e w' => e = .returned (.tuple #[]) ∧ ∃ v' l', Hv h v' l' w' ∧ Hp dE ahE l' ∧ Same (l ++ [x]) l' ∧ Moves (OV h v) w (OV h v') w' := by
  obtain ⟨i0, hi0, hz0, hz1, hz2⟩ := info_parts Try.infoEnd
  obtain ⟨y0, y1, y2⟩ := cellsE_new w (.string x.st) (.int .i64 x.at') (.int .i64 x.op)
  obtain ⟨w0, hw0⟩ : ∃ w0, w0 = w.alloc (.cells #[.string x.st, .int .i64 x.at', .int .i64 x.op] 61) := ⟨_, rfl⟩
  have z0 := y0 61
  have z1 := y1 61
  have z2 := y2 61
  rw [← hw0] at z0 z1 z2
  have hbw : Below w.heap.size w w0 := by rw [hw0]; exact (Below.refl _ _).alloc (Nat.le_refl _) _
  have H1 := H.up hbw
  have k0 := H1.c
  have kf := H1.fz
  have own0 := H1.own
  have ne0 := H1.ne
  have lg := H1.lt
  have HH := hide H1
  have HB := hide hbw
  have HP := hide hp
  clear H H1 hbw hp y0 y1 y2
  unfold enV
  go_enter Try.func34, Try.ntmps34
  go_wp2_with fail
  rw [← hw0]
  clear hw0
  go_region_law
    ((refine step_append_lies _ (by rfl) _ _ _ (by rfl) 0 61 i0 _ 3 32 Try.underlying50 hi0 hz0 hz1 hz2 rfl (by omega) v l.length (encE l) (by rfl) ((own0.alloc _).drew)
        ⟨w0.heap.size, 0, none⟩ 1 1 [.string x.st, .int .i64 x.at', .int .i64 x.op] (by rfl) (by rfl) (World.news_of_block (cs := #[.string x.st, .int .i64 x.at', .int .i64 x.op]) (t := 61) (fr := (0, 0)) (heap_alloc_new w0 _)) (by simp [Value.oneCell'])
        (by omega) (by unfold maxLen; omega) (by omega) (by omega) (w0.heap.size + 1) (by simp) ?_; intro gg cap w2 hown1 hgrow hat hlt; have hfz := (hgrow.frozen_far ⟨h, 0, none⟩ (by simp; omega) (Ne.symm ne0)).trans (fz_al w0 _ _ lg kf); have hcz := (hgrow.cell_far ⟨h, 0, none⟩ (by simp; omega) (Ne.symm ne0)).trans (cl_al w0 _ _ k0)))
  all_goals
    obtain ⟨T, M⟩ := hv_put (l' := l ++ [x]) (v' := .slice (some ⟨gg, 0, none⟩) (l.length + 1) cap) HH.out (grown_alE hgrow) (by rw [encE_app, List.length_append]; exact hown1) (by
      rcases hat with e | e
      · exact .inl e.symm
      · exact .inr (fun y hy => by have : gg = y := by injection hy
                                   omega))
    have L := T.hl.2
    have q0 := T.c
    have R := hide (fun w3 (hb : Below (w2.setCell ⟨h, 0, none⟩ (.slice (some ⟨gg, 0, none⟩) (l.length + 1) cap)).heap.size (w2.setCell ⟨h, 0, none⟩ (.slice (some ⟨gg, 0, none⟩) (l.length + 1) cap)) w3) => rise_at (L.up hb) (i := l.length) (by simp) (hp_push HP.out x) (by simp; omega) (a := (l.length : Int)) rfl)
    have HM := hide M
    clear T M L k0 kf own0 ne0 lg HH z0 z1 z2 hown1 hgrow hat hlt hfz hcz hi0 hz0 hz1 hz2
    go_wp2_with (go_at_call 37; refine (R.out _ (by first | exact Below.refl _ _ | exact (Below.refl _ _).drew)).mono ?_; rintro e w3 ⟨rfl, l', hs, hh, hl3, hm3⟩)
    go_end0
    refine ⟨rfl, _, l', hl3.hv, hh, hs, ((mv_up HB.out).trans HM.out).trans ?_⟩
    rw [show l'.length = l.length + 1 by rw [hs.len]; simp]
    exact hm3.wider (fun k _ e => .inr (by rw [e]; rfl)) (fun k _ c => c)
end Go.Proofs.Ytknodkdlphngmaw
