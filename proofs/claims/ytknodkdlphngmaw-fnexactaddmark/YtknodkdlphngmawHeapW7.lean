/- The first end is taken from the heap. -/
import Derived.Test.YtknodkdlphngmawHeapW6
namespace Go.Proofs.Ytknodkdlphngmaw
open Go.RowKit
open Doc1

theorem Hl.cut {h g cap : Nat} {l : List En} {w : World} (H : Hl h g cap l w) {m : Nat} (hm : m ≤ l.length) : Hl h g cap (l.take m) (w.setCell ⟨h, 0, none⟩ (.slice (some ⟨g, 0, none⟩) m cap)) := by
  obtain ⟨cs, h1, h2⟩ := H.ex
  have hlen : (l.take m).length = m := by rw [List.length_take]; omega
  refine ⟨cs, ?_, ?_⟩
  · rw [hlen]
    refine ⟨World.cell?_setCell_same _ _ _ h1.c, by rw [World.frozen?_setCell]; exact h1.fz, h1.ne, (Below.heap_setCell _ _ _ _ (Ne.symm h1.ne)).trans h1.row, h1.len, ?_⟩
    have := h1.cap
    omega
  · rw [hlen]
    have e : encE l = encE (l.take m) ++ encE (l.drop m) := by rw [← encE_app, List.take_append_drop]
    have : cs.take (m * 3) = (cs.take (l.length * 3)).take (m * 3) := by rw [List.take_take, Nat.min_eq_left (by omega)]
    rw [this, h2, e, List.take_left' (by rw [encE_len, hlen])]
theorem Try.sizeEnd : (Try.prog.info? 61).map (·.size) = some 3 := by kernel_rfl
theorem row1_set {w : World} {g : Nat} {cs : Array Value} {t : TypeId} {fr : Nat × Nat} (h : w.heap[g]? = some (.cells cs t fr)) (j : Nat) (v : Value) : (w.setCell ⟨g, j, none⟩ v).heap[g]? = some (.cells (cs.set! j v) t fr) := by
  have hl : g < w.heap.size := (Array.getElem?_eq_some_iff.1 h).1
  show (w.heap.modify g _)[g]? = _
  rw [Array.getElem?_eq_getElem (by rw [Array.size_modify]; exact hl), Array.getElem_modify_self]
  have e : w.heap[g] = .cells cs t fr := by rw [Array.getElem?_eq_getElem hl] at h; exact Option.some.inj h
  rw [e]
  rfl
theorem row3_set {w : World} {g : Nat} {a b c : Value} {t : TypeId} {fr : Nat × Nat} (h : w.heap[g]? = some (.cells #[a, b, c] t fr)) (x y z : Value) : (((w.setCell ⟨g, 0, none⟩ x).setCell ⟨g, 1, none⟩ y).setCell ⟨g, 2, none⟩ z).heap[g]? = some (.cells #[x, y, z] t fr) := row1_set (row1_set (row1_set h 0 x) 1 y) 2 z
theorem pop_same {l : List En} (h : 0 < l.length) : Same l (l[0] :: (sw dE l 0 (l.length - 1)).take (l.length - 1)) := by
  have hs := same_sw (i := 0) (j := l.length - 1) h (by omega)
  have hl : (sw dE l 0 (l.length - 1)).length = l.length := hs.len
  have e : (sw dE l 0 (l.length - 1)) = (sw dE l 0 (l.length - 1)).take (l.length - 1) ++ [l[0]] := by
    have hd : (sw dE l 0 (l.length - 1)).drop (l.length - 1) = [l[0]] := by
      rw [List.drop_eq_getElem_cons (by omega), List.drop_eq_nil_of_le (by omega)]
      congr 1
      have := gt_sw (d := dE) (l := l) (i := 0) (j := l.length - 1) h (by omega) (l.length - 1)
      rw [if_pos rfl, gt_at h, gt_at (by omega)] at this
      exact this
    rw [← hd, List.take_append_drop]
  refine ⟨by rw [List.length_cons, List.length_take]; omega, fun x => ?_⟩
  rw [← hs.cnt x]
  conv => rhs; rw [e]
  rw [List.count_cons, List.count_append, List.count_singleton]

set_option maxRecDepth 100000 in
set_option maxHeartbeats 4000000 in
theorem pop_any {h g cap : Nat} {l : List En} {w : World} (H : Hl h g cap l w) (hp : Hp dE ahE l) (hl : l.length ≤ 1000000) (h0 : 0 < l.length) :
    Calls Try.prog 35 #[.pointer (some ⟨h, 0, none⟩)] w fun e w' => e = .returned (enV l[0]) ∧ ∃ l', Hl h g cap l' w' ∧ Hp dE ahE l' ∧ Same l (l[0] :: l') ∧ Moves (fun k => k = h ∨ k = g) w (fun k => k = h ∨ k = g) w' := by
  obtain ⟨n, hn⟩ : ∃ n, l.length = n + 1 := ⟨l.length - 1, by omega⟩
  have hc : w.cell? ⟨h, 0, none⟩ = some (.slice (some ⟨g, 0, none⟩) (n + 1) cap) := by obtain ⟨cs, h1, _⟩ := H.ex; rw [← hn]; exact h1.c
  have hcap : n + 1 ≤ cap ∧ cap ≤ maxLen := by obtain ⟨cs, h1, _⟩ := H.ex; rw [← hn]; exact h1.cap
  have hh := World.block_lt_of_cell? w _ hc
  have hg : g < w.heap.size := by obtain ⟨cs, h1, _⟩ := H.ex; exact h1.glt
  have jw : IntKind.i64.wrap (n : Int) = (n : Int) := by rw [IntKind.wrap_i64] <;> omega
  have n0 : (0 : Int) ≤ (n : Int) := by omega
  have n1 : (n : Int) < (n : Int) + 1 := by omega
  obtain ⟨y0, y1, y2⟩ := cellsE_new w (.string ⟨#[]⟩) (.int .i64 0) (.int .i64 0)
  obtain ⟨w1, hw1⟩ : ∃ w1, w1 = w.alloc (.cells #[.string ⟨#[]⟩, .int .i64 0, .int .i64 0] 61) := ⟨_, rfl⟩
  have z0 := y0 61
  have z1 := y1 61
  have z2 := y2 61
  have zf : ∀ j, w1.frozen? ⟨w.heap.size, j, none⟩ = false := fun j => by rw [hw1]; exact World.frozen?_alloc_new _ _ _ _
  have zb : w1.heap[w.heap.size]? = some (.cells #[.string ⟨#[]⟩, .int .i64 0, .int .i64 0] 61 (0, 0)) := by rw [hw1]; exact heap_alloc_new _ _
  have ZB := hide zb
  clear zb
  have zs : w1.heap.size = w.heap.size + 1 := by rw [hw1]; simp
  rw [← hw1] at z0 z1 z2
  have hbw : Below w.heap.size w w1 := by rw [hw1]; exact (Below.refl _ _).alloc (Nat.le_refl _) _
  have hc1 : w1.cell? ⟨h, 0, none⟩ = some (.slice (some ⟨g, 0, none⟩) (n + 1) cap) := (World.cell?_of_block (hbw.block _ hh)).trans hc
  have HS := hide (swap_at (H.up hbw) h0 (j := n) (by omega) (a := 0) (b := (n : Int)) rfl rfl)
  have HP := hide hp
  have HB := hide hbw
  have hsl : (sw dE l 0 n).length = n + 1 := by rw [sw_len]; exact hn
  have hsn : (sw dE l 0 n)[n] = l[0] := by
    have := gt_sw (d := dE) (l := l) (i := 0) (j := n) h0 (by omega) n
    rw [if_pos rfl, gt_at h0, gt_at (by omega)] at this
    exact this
  obtain ⟨x, hx⟩ : ∃ x, x = l[0] := ⟨_, rfl⟩
  have HT := hide (pop_same h0)
  rw [show l.length - 1 = n by omega] at HT
  rw [← hx] at hsn HT ⊢
  clear hx
  have hca := hc1
  rw [hw1] at hca
  clear H hp y0 y1 y2 hbw hc
  unfold enV
  go_enter Try.func35, Try.ntmps35
  go_wp2_with fail
  rw [← hw1]
  clear hw1 hca
  refine HS.out.mono ?_
  rintro e w3 ⟨rfl, hl3, hm3⟩
  have hr : w3.heap[w.heap.size]? = w1.heap[w.heap.size]? := hm3.same _ (by omega) (by omega)
  have HR3 := hide (hr.trans ZB.out)
  have r0 := (World.cell?_of_block (a := ⟨w.heap.size, 0, none⟩) hr).trans z0
  have r1 := (World.cell?_of_block (a := ⟨w.heap.size, 1, none⟩) hr).trans z1
  have r2 := (World.cell?_of_block (a := ⟨w.heap.size, 2, none⟩) hr).trans z2
  have rf : ∀ j, w3.frozen? ⟨w.heap.size, j, none⟩ = false := fun j => (World.frozen?_of_block (a := ⟨w.heap.size, j, none⟩) hr).trans (zf j)
  have hs3 : w.heap.size < w3.heap.size := Nat.lt_of_lt_of_le (by omega) hm3.size
  obtain ⟨t0, t1, t2⟩ := hl3.cells (i := n) (by omega)
  rw [hsn] at t0 t1 t2
  have c3 : w3.cell? ⟨h, 0, none⟩ = some (.slice (some ⟨g, 0, none⟩) (n + 1) cap) := by obtain ⟨cs, h1, _⟩ := hl3.ex; rw [← hsl]; exact h1.c
  have cf : w3.frozen? ⟨h, 0, none⟩ = false := by obtain ⟨cs, h1, _⟩ := hl3.ex; exact h1.fz
  obtain ⟨y0, y1, y2⟩ := cellsE_new (w3.setCell ⟨h, 0, none⟩ (.slice (some ⟨g, 0, none⟩) n cap)) (.string x.st) (.int .i64 x.at') (.int .i64 x.op)
  have HK := hide (hp_pop HP.out h0)
  rw [show l.length - 1 = n by omega] at HK
  have hb4 : Below w3.heap.size w3 (w3.alloc (.cells #[.string x.st, .int .i64 x.at', .int .i64 x.op] 61)) := (Below.refl _ _).alloc (Nat.le_refl _) _
  have hh3 : h < w3.heap.size := by omega
  have c4 : (w3.alloc (.cells #[.string x.st, .int .i64 x.at', .int .i64 x.op] 61)).cell? ⟨h, 0, none⟩ = some (.slice (some ⟨g, 0, none⟩) (n + 1) cap) := (World.cell?_of_block (hb4.block _ hh3)).trans c3
  have cf4 : (w3.alloc (.cells #[.string x.st, .int .i64 x.at', .int .i64 x.op] 61)).frozen? ⟨h, 0, none⟩ = false := (World.frozen?_of_block (a := ⟨h, 0, none⟩) (hb4.block _ hh3)).trans cf
  have hsz : (w3.setCell ⟨h, 0, none⟩ (.slice (some ⟨g, 0, none⟩) n cap)).heap.size = w3.heap.size := by simp [World.setCell]
  have HC := hide (sink_at ((hl3.cut (m := n) (by omega)).up ((Below.refl _ _).alloc (Nat.le_refl _) (.cells #[.string x.st, .int .i64 x.at', .int .i64 x.op] 61))) HK.out (by rw [List.length_take]; omega) (a := (n : Int)) (by rw [List.length_take]; omega))
  rw [hsz] at y0 y1 y2
  have Y0 := hide (y0 61)
  have Y1 := hide (y1 61)
  have Y2 := hide (y2 61)
  have HM := hide hm3
  have H4 := hide hb4
  clear hl3 hm3 HS HP hsl hsn hr z0 z1 z2 zf hc1 HK y0 y1 y2 hb4
  go_wp2_with fail
  refine HC.out.mono ?_
  rintro e w5 ⟨rfl, l', hs, hp5, hl5, hm5⟩
  have hs5 : ((w3.setCell ⟨h, 0, none⟩ (.slice (some ⟨g, 0, none⟩) n cap)).alloc (.cells #[.string x.st, .int .i64 x.at', .int .i64 x.op] 61)).heap.size = w3.heap.size + 1 := by rw [World.size_alloc, hsz]
  have far : ∀ k, k < w3.heap.size + 1 → k ≠ g → w5.heap[k]? = ((w3.setCell ⟨h, 0, none⟩ (.slice (some ⟨g, 0, none⟩) n cap)).alloc (.cells #[.string x.st, .int .i64 x.at', .int .i64 x.op] 61)).heap[k]? := fun k hk h2 => hm5.same k (by rw [hs5]; exact hk) h2
  have u0 := (World.cell?_of_block (a := ⟨w3.heap.size, 0, none⟩) (far w3.heap.size (by omega) (by omega))).trans Y0.out
  have u1 := (World.cell?_of_block (a := ⟨w3.heap.size, 1, none⟩) (far w3.heap.size (by omega) (by omega))).trans Y1.out
  have u2 := (World.cell?_of_block (a := ⟨w3.heap.size, 2, none⟩) (far w3.heap.size (by omega) (by omega))).trans Y2.out
  have fr : w5.heap[w.heap.size]? = w3.heap[w.heap.size]? := (far _ (by omega) (by omega)).trans ((Below.heap_alloc (w3.setCell ⟨h, 0, none⟩ (.slice (some ⟨g, 0, none⟩) n cap)) (.cells #[.string x.st, .int .i64 x.at', .int .i64 x.op] 61) _ (by rw [hsz]; exact hs3)).trans (Below.heap_setCell _ _ _ _ (by show w.heap.size ≠ h; omega)))
  have HR5 := hide (row3_set (fr.trans HR3.out) (.string x.st) (.int .i64 x.at') (.int .i64 x.op))
  have v0 := (World.cell?_of_block (a := ⟨w.heap.size, 0, none⟩) fr).trans r0
  have v1 := (World.cell?_of_block (a := ⟨w.heap.size, 1, none⟩) fr).trans r1
  have v2 := (World.cell?_of_block (a := ⟨w.heap.size, 2, none⟩) fr).trans r2
  have vf : ∀ j, w5.frozen? ⟨w.heap.size, j, none⟩ = false := fun j => (World.frozen?_of_block (a := ⟨w.heap.size, j, none⟩) fr).trans (rf j)
  have HM5 := hide hm5
  have HL5 := hide hl5
  have HP5 := hide hp5
  have HS5 := hide hs
  clear far fr hm5 hl5 hp5 hs r0 r1 r2 rf t0 t1 t2 c3 cf c4 cf4 HC Y0 Y1 Y2
  go_wp2
  (try simp only [Exit.inBlock, Exit.then])
  refine bodyPost_ret (results_cell_row rfl _ _ w.heap.size 61 #[.string x.st, .int .i64 x.at', .int .i64 x.op] (0, 0) _ rfl HR5.out Try.underlying61 rfl Try.sizeEnd) rfl ?_
  have hrh : w.heap.size ≠ h := by omega
  have hrg : w.heap.size ≠ g := by omega
  refine ⟨rfl, l', ?_, HP5.out, ?_, ?_⟩
  · obtain ⟨cs, k1, k2⟩ := HL5.out.ex
    refine ⟨cs, k1.kept ?_ ?_, k2⟩
    · rw [Below.heap_setCell _ _ _ _ (Ne.symm hrh), Below.heap_setCell _ _ _ _ (Ne.symm hrh), Below.heap_setCell _ _ _ _ (Ne.symm hrh)]
    · rw [Below.heap_setCell _ _ _ _ (Ne.symm hrg), Below.heap_setCell _ _ _ _ (Ne.symm hrg), Below.heap_setCell _ _ _ _ (Ne.symm hrg)]
  · exact HT.out.trans ⟨by rw [List.length_cons, List.length_cons, HS5.out.len], fun y => by rw [List.count_cons, List.count_cons, HS5.out.cnt y]⟩
  · have m0 : Moves (fun k => k = h ∨ k = g) w (fun k => k = h ∨ k = g) w1 := mv_up HB.out
    have m1 : Moves (fun k => k = h ∨ k = g) w1 (fun k => k = h ∨ k = g) w3 := HM.out.wider (fun k _ e => .inr e) (fun k _ e => e)
    have m2 := (((m0.trans m1).setCell (p := ⟨h, 0, none⟩) (fun _ => .inl rfl) (.slice (some ⟨g, 0, none⟩) n cap)).trans (mv_up ((Below.refl _ _).alloc (Nat.le_refl _) (.cells #[.string x.st, .int .i64 x.at', .int .i64 x.op] 61)))).trans (HM5.out.wider (A' := fun k => k = h ∨ k = g) (B' := fun k => k = h ∨ k = g) (fun k _ e => .inr e) (fun k _ e => e))
    have nl : ∀ j, (⟨w.heap.size, j, none⟩ : Addr).block < w.heap.size → ((⟨w.heap.size, j, none⟩ : Addr).block = h ∨ (⟨w.heap.size, j, none⟩ : Addr).block = g) := fun j c => absurd c (by show ¬ w.heap.size < w.heap.size; omega)
    exact ((m2.setCell (nl 0) _).setCell (nl 1) _).setCell (nl 2) _
end Go.Proofs.Ytknodkdlphngmaw
