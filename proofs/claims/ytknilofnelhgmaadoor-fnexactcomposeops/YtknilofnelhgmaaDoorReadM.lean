/- The model's reader of a change, l3R: done, size, take. The model's reader of a change: take. The model's reader of a change: take, where a part is cut. -/
import Derived.Test.YtknilofnelhgmaaDoorKeep1
import Derived.Test.YtknilofnelhgmaaDoorOpSA
import Derived.Deep.QuietTactic
import Derived.BigQuiet
import Derived.Test.YtknilofnelhgmaaDoorOpSM
namespace Go.Proofs.YtknilofnelhgmaaDoor
open Go.RowKit
open Doc1

/-- A reader in block B: what is left lies in block g. -/
structure Rd (W : World) (B g : Nat) (l : List Pt) : Prop where
  ex : ∃ (a : Option Addr) (o cap : Nat), W.cell? ⟨B, 0, none⟩ = some (.slice a l.length cap) ∧ (l.length ≤ cap ∧ cap ≤ maxLen) ∧ (∀ k, k < l.length → a = some ⟨g, o, none⟩) ∧
    ∀ j u, (encP l)[j]? = some u → W.cell? ⟨g, o + j, none⟩ = some u
  fz : ∀ j, W.frozen? ⟨B, j, none⟩ = false
  lt : B < W.heap.size ∧ g < W.heap.size
  ne : g ≠ B
theorem Rd.kept {W W' : World} {B g : Nat} {l : List Pt} (h : Rd W B g l) (h1 : W'.heap[B]? = W.heap[B]?) (h2 : W'.heap[g]? = W.heap[g]?) (hs : W.heap.size ≤ W'.heap.size) : Rd W' B g l := by
  obtain ⟨a, o, cap, e1, e2, e3, e4⟩ := h.ex
  exact ⟨⟨a, o, cap, (World.cell?_of_block h1).trans e1, e2, e3, fun j u hu => (World.cell?_of_block h2).trans (e4 j u hu)⟩, fun j => (World.frozen?_of_block h1).trans (h.fz j), ⟨by have := h.lt; omega, by have := h.lt; omega⟩, h.ne⟩
theorem Rd.grown {W W' : World} {B g : Nat} {l : List Pt} {r : Option Nat} (h : Rd W B g l) (hg : W.grownBy W' r) (h1 : r ≠ some B) (h2 : r ≠ some g) : Rd W' B g l :=
  h.kept (hg.block B h.lt.1 (Ne.symm h1)) (hg.block g h.lt.2 (Ne.symm h2)) hg.size
theorem Rd.up {W W' : World} {B g : Nat} {l : List Pt} (h : Rd W B g l) (hb : Below W.heap.size W W') : Rd W' B g l := h.kept (hb.block B h.lt.1) (hb.block g h.lt.2) hb.size
/-- The first part that is left. -/
theorem Rd.cons {W : World} {B g : Nat} {p : Pt} {r : List Pt} (h : Rd W B g (p :: r)) : ∃ o cap, W.cell? ⟨B, 0, none⟩ = some (.slice (some ⟨g, o, none⟩) (r.length + 1) cap) ∧ (r.length + 1 ≤ cap ∧ cap ≤ maxLen) ∧
    (W.cell? ⟨g, o, none⟩ = some (.int .i64 p.keep) ∧ W.cell? ⟨g, o + 1, none⟩ = some (.string p.put) ∧ W.cell? ⟨g, o + 2, none⟩ = some (.string p.drop)) ∧ (∀ j u, (encP (p :: r))[j]? = some u → W.cell? ⟨g, o + j, none⟩ = some u) ∧ ∀ j u, (encP r)[j]? = some u → W.cell? ⟨g, o + 3 + j, none⟩ = some u := by
  obtain ⟨a, o, cap, e1, e2, e3, e4⟩ := h.ex
  obtain rfl := e3 0 (by simp)
  have ec : encP (p :: r) = ptC p ++ encP r := by simp [encP]
  refine ⟨o, cap, e1, e2, ⟨?_, ?_, ?_⟩, e4, fun j u hu => ?_⟩
  · have := e4 0 (.int .i64 p.keep) (by rw [ec]; rfl)
    simpa using this
  · exact e4 1 _ (by rw [ec]; rfl)
  · exact e4 2 _ (by rw [ec]; rfl)
  · have := e4 (3 + j) u (by rw [ec, List.getElem?_append_right (by simp [ptC])]; simpa [ptC] using hu)
    rw [show o + 3 + j = o + (3 + j) by omega]; exact this
/-- A new reader. -/
theorem rd_new {W : World} {g cap : Nat} {a : Option Addr} {l : List Pt} (hc : l.length ≤ cap ∧ cap ≤ maxLen) (ha : ∀ k, k < l.length → a = some ⟨g, 0, none⟩) (hl : CLs W g (encP l)) (hg : g < W.heap.size) (t : TypeId) : Rd (W.alloc (.cells #[.slice a l.length cap] t)) W.heap.size g l := by
  have hh := heap_alloc_new W (.cells #[.slice a l.length cap] t)
  refine ⟨⟨a, 0, cap, ?_, hc, ha, fun j u hu => ?_⟩, fun j => ?_, ⟨by simp, by simp; omega⟩, by omega⟩
  · unfold World.cell?; rw [hh]; rfl
  · rw [Nat.zero_add]
    exact (World.cell?_of_block (Below.heap_alloc W _ g hg)).trans (hl j u hu)
  · unfold World.frozen?; rw [hh]; simp

set_option maxHeartbeats 1000000 in
theorem done_any {W : World} {B g : Nat} {l : List Pt} (h : Rd W B g l) :
    Calls Tryd.prog 99 #[.pointer (some ⟨B, 0, none⟩)] W fun e w' => e = .returned (.bool (decide (l = []))) ∧ w' = W := by
  obtain ⟨a, o, cap, e1, e2, -, -⟩ := h.ex
  clear h
  cases l with
  | nil =>
    go_enter Tryd.func99, Tryd.ntmps99
    go_wp2
    go_ret
    exact ⟨rfl, rfl⟩
  | cons p r =>
    have hn : ((r.length : Int) + 1 == 0) = false := by rw [beq_eq_false_iff_ne]; omega
    simp only [List.length_cons] at e1 e2
    go_enter Tryd.func99, Tryd.ntmps99
    go_wp2
    go_ret
    exact ⟨rfl, rfl⟩
def psz (p : Pt) : Int := p.keep + (p.put.size : Int) + (p.drop.size : Int)

set_option maxRecDepth 100000 in
set_option maxHeartbeats 1000000 in
theorem size_any {W : World} {B g : Nat} {p : Pt} {r : List Pt} (h : Rd W B g (p :: r)) (hk : 0 ≤ p.keep ∧ p.keep ≤ 300) (hp : p.put.size ≤ 300) (hd : p.drop.size ≤ 300) :
    Calls Tryd.prog 101 #[.pointer (some ⟨B, 0, none⟩)] W fun e w' => e = .returned (.int .i64 (psz p)) ∧ ∃ n, w' = W.drewN n := by
  obtain ⟨o, cap, e1, e2, ⟨c0, c1, c2⟩, -, -⟩ := h.cons
  unfold psz
  clear h
  go_enter Tryd.func101, Tryd.ntmps101
  go_wp2
  go_quiet (fail)
  go_wp2
  go_ret
  exact ⟨rfl, _, rfl⟩
end Go.Proofs.YtknilofnelhgmaaDoor

namespace Go.Proofs.YtknilofnelhgmaaDoor
open Go.RowKit
open Doc1

theorem cells_set {w : World} {g : Nat} {cs : Array Value} {t : TypeId} {fr : Nat × Nat} (h : w.heap[g]? = some (.cells cs t fr)) (j : Nat) (v : Value) : (w.setCell ⟨g, j, none⟩ v).heap[g]? = some (.cells (cs.set! j v) t fr) := by
  have hl : g < w.heap.size := (Array.getElem?_eq_some_iff.1 h).1
  show (w.heap.modify g _)[g]? = _
  rw [Array.getElem?_eq_getElem (by rw [Array.size_modify]; exact hl), Array.getElem_modify_self]
  have e : w.heap[g] = .cells cs t fr := by rw [Array.getElem?_eq_getElem hl] at h; exact Option.some.inj h
  rw [e]
  rfl
theorem row3_put {w : World} {g : Nat} {a b c : Value} {t : TypeId} {fr : Nat × Nat} (h : w.heap[g]? = some (.cells #[a, b, c] t fr)) (x y z : Value) : (((w.setCell ⟨g, 0, none⟩ x).setCell ⟨g, 1, none⟩ y).setCell ⟨g, 2, none⟩ z).heap[g]? = some (.cells #[x, y, z] t fr) := cells_set (cells_set (cells_set h 0 x) 1 y) 2 z
theorem cells3_of {w : World} {g : Nat} {a b c : Value} {t : TypeId} (h : w.heap[g]? = some (.cells #[a, b, c] t (0, 0))) : (w.cell? ⟨g, 0, none⟩ = some a ∧ w.cell? ⟨g, 1, none⟩ = some b ∧ w.cell? ⟨g, 2, none⟩ = some c) ∧ ∀ j, w.frozen? ⟨g, j, none⟩ = false := by
  refine ⟨⟨?_, ?_, ?_⟩, fun j => ?_⟩
  · simp [World.cell?, h]
  · simp [World.cell?, h]
  · simp [World.cell?, h]
  · simp [World.frozen?, h]
theorem Tryd.sizePart : (Tryd.prog.info? 38).map (·.size) = some 3 := by kernel_rfl
/-- What lies ready when the size is known. -/
structure Tk (W : World) (B g : Nat) (p : Pt) (r : List Pt) (w3 : World) : Prop where
  rd : Rd w3 B g (p :: r)
  hR : w3.heap[W.heap.size]? = some (.cells #[.int .i64 0, .string ⟨#[]⟩, .string ⟨#[]⟩] 38 (0, 0))
  hP : w3.heap[W.heap.size + 1]? = some (.cells #[.int .i64 p.keep, .string p.put, .string p.drop] 38 (0, 0))
  gr : Below W.heap.size W w3
  sz : W.heap.size + 2 ≤ w3.heap.size
theorem tk_size {W : World} {B g : Nat} {p : Pt} {r : List Pt} (h : Rd W B g (p :: r)) (hk : 0 ≤ p.keep ∧ p.keep ≤ 300) (hp : p.put.size ≤ 300) (hd : p.drop.size ≤ 300) :
    Calls Tryd.prog 101 #[.pointer (some ⟨B, 0, none⟩)] ((W.alloc (.cells #[.int .i64 0, .string ⟨#[]⟩, .string ⟨#[]⟩] 38)).alloc (.cells #[.int .i64 p.keep, .string p.put, .string p.drop] 38)) fun e w' => e = .returned (.int .i64 (psz p)) ∧ Tk W B g p r w' := by
  have hB : Below W.heap.size W ((W.alloc (.cells #[.int .i64 0, .string ⟨#[]⟩, .string ⟨#[]⟩] 38)).alloc (.cells #[.int .i64 p.keep, .string p.put, .string p.drop] 38)) := ((Below.refl _ _).alloc (Nat.le_refl _) _).alloc (by simp) _
  refine (size_any (h.up hB) hk hp hd).mono ?_
  rintro e w' ⟨he, n, rfl⟩
  have h1 := heap_alloc_new W (.cells #[.int .i64 0, .string ⟨#[]⟩, .string ⟨#[]⟩] 38)
  have h2 := heap_alloc_new (W.alloc (.cells #[.int .i64 0, .string ⟨#[]⟩, .string ⟨#[]⟩] 38)) (.cells #[.int .i64 p.keep, .string p.put, .string p.drop] 38)
  rw [World.size_alloc] at h2
  refine ⟨he, (h.up hB).kept rfl rfl (Nat.le_refl _), (Below.heap_alloc _ _ _ (by simp)).trans h1, h2, ⟨hB.os, hB.tape, hB.output, hB.size, hB.block⟩, by show _ ≤ ((W.alloc _).alloc _).heap.size; simp⟩

set_option maxRecDepth 100000 in
set_option maxHeartbeats 2000000 in
theorem take_whole {W : World} {B g : Nat} {p : Pt} {r : List Pt} (h : Rd W B g (p :: r)) (hk : 0 ≤ p.keep ∧ p.keep ≤ 300) (hp : p.put.size ≤ 300) (hd : p.drop.size ≤ 300) :
    Calls Tryd.prog 100 #[.pointer (some ⟨B, 0, none⟩), .int .i64 (psz p)] W fun e w' => e = .returned (ptV p) ∧ Rd w' B g r ∧ W.grownBy w' (some B) := by
  have SZ := hide (tk_size h hk hp hd)
  obtain ⟨o, cap, e1, e2, ⟨c0, c1, c2⟩, -, -⟩ := h.cons
  have hlt := h.lt
  clear h
  unfold ptV
  generalize psz p = n at *
  go_enter Tryd.func100, Tryd.ntmps100
  go_wp2_with fail
  refine SZ.out.mono ?_
  rintro e w3 ⟨rfl, tk⟩
  obtain ⟨o', cap', b0, hcap', -, -, hrest⟩ := tk.rd.cons
  have hs3 := tk.sz
  have bf := tk.rd.fz 0
  clear e1 c0 c1 c2 SZ e2
  have FAR : Hid (∀ v : Value, (((w3.setCell ⟨B, 0, none⟩ v).cell? ⟨W.heap.size + 1, 0, none⟩ = some (.int .i64 p.keep) ∧ (w3.setCell ⟨B, 0, none⟩ v).cell? ⟨W.heap.size + 1, 1, none⟩ = some (.string p.put) ∧ (w3.setCell ⟨B, 0, none⟩ v).cell? ⟨W.heap.size + 1, 2, none⟩ = some (.string p.drop)) ∧
      ((w3.setCell ⟨B, 0, none⟩ v).cell? ⟨W.heap.size, 0, none⟩ = some (.int .i64 0) ∧ (w3.setCell ⟨B, 0, none⟩ v).cell? ⟨W.heap.size, 1, none⟩ = some (.string ⟨#[]⟩) ∧ (w3.setCell ⟨B, 0, none⟩ v).cell? ⟨W.heap.size, 2, none⟩ = some (.string ⟨#[]⟩))) ∧ (∀ j, (w3.setCell ⟨B, 0, none⟩ v).frozen? ⟨W.heap.size, j, none⟩ = false)) := hide (fun v => by
    have f1 := cells3_of ((Below.heap_setCell w3 ⟨B, 0, none⟩ v (W.heap.size + 1) (by show W.heap.size + 1 ≠ B; omega)).trans tk.hP)
    have f2 := cells3_of ((Below.heap_setCell w3 ⟨B, 0, none⟩ v W.heap.size (by show W.heap.size ≠ B; omega)).trans tk.hR)
    exact ⟨⟨f1.1, f2.1⟩, f2.2⟩)
  have FIN : Hid (∀ v : Value, Rd (w3.setCell ⟨B, 0, none⟩ v) B g r → (((((w3.setCell ⟨B, 0, none⟩ v).setCell ⟨W.heap.size, 0, none⟩ (.int .i64 p.keep)).setCell ⟨W.heap.size, 1, none⟩ (.string p.put)).setCell ⟨W.heap.size, 2, none⟩ (.string p.drop)).heap[W.heap.size]? = some (.cells #[.int .i64 p.keep, .string p.put, .string p.drop] 38 (0, 0))) ∧
      Rd ((((w3.setCell ⟨B, 0, none⟩ v).setCell ⟨W.heap.size, 0, none⟩ (.int .i64 p.keep)).setCell ⟨W.heap.size, 1, none⟩ (.string p.put)).setCell ⟨W.heap.size, 2, none⟩ (.string p.drop)) B g r ∧
      W.grownBy ((((w3.setCell ⟨B, 0, none⟩ v).setCell ⟨W.heap.size, 0, none⟩ (.int .i64 p.keep)).setCell ⟨W.heap.size, 1, none⟩ (.string p.put)).setCell ⟨W.heap.size, 2, none⟩ (.string p.drop)) (some B)) := hide (fun v hr => by
    have hR := (Below.heap_setCell w3 ⟨B, 0, none⟩ v W.heap.size (by show W.heap.size ≠ B; omega)).trans tk.hR
    have same : ∀ k, k ≠ W.heap.size → ((((w3.setCell ⟨B, 0, none⟩ v).setCell ⟨W.heap.size, 0, none⟩ (.int .i64 p.keep)).setCell ⟨W.heap.size, 1, none⟩ (.string p.put)).setCell ⟨W.heap.size, 2, none⟩ (.string p.drop)).heap[k]? = (w3.setCell ⟨B, 0, none⟩ v).heap[k]? := fun k hk => ((Below.heap_setCell _ _ _ _ hk).trans (Below.heap_setCell _ _ _ _ hk)).trans (Below.heap_setCell _ _ _ _ hk)
    refine ⟨row3_put hR _ _ _, hr.kept (same B (by omega)) (same g (by omega)) (by simp), ⟨tk.gr.os, tk.gr.tape, tk.gr.output, by have := tk.gr.size; simpa using this, fun k hk hne => ?_⟩⟩
    exact (same k (by omega)).trans ((Below.heap_setCell _ _ _ _ (fun e => hne (by rw [show k = B from e]))).trans (tk.gr.block k hk)))
  have RDC : Hid (∀ v a, v = Value.slice a r.length (cap' - 1) → (∀ k, k < r.length → a = some ⟨g, o' + 3, none⟩) → Rd (w3.setCell ⟨B, 0, none⟩ v) B g r) := hide (fun v a hv ha => by
    have hne := tk.rd.ne
    refine ⟨⟨a, o' + 3, cap' - 1, by rw [World.cell?_setCell_same _ _ _ b0, hv], ⟨by omega, by omega⟩, ha, fun j u hu => (World.cell?_of_block (Below.heap_setCell _ _ _ _ hne)).trans (hrest j u hu)⟩, fun j => by rw [World.frozen?_setCell]; exact tk.rd.fz j, ⟨by have := tk.rd.lt; simpa using this.1, by have := tk.rd.lt; simpa using this.2⟩, hne⟩)
  clear hrest tk
  by_cases hc1 : cap' = 1
  · subst hc1
    obtain rfl : r = [] := List.eq_nil_of_length_eq_zero (by omega)
    obtain ⟨⟨⟨p0, p1, p2⟩, ⟨r0, r1, r2⟩⟩, rf⟩ := FAR.out (.slice (some ⟨g, o', none⟩) 0 0)
    obtain ⟨X1, X2, X3⟩ := FIN.out (.slice (some ⟨g, o', none⟩) 0 0) (RDC.out _ (some ⟨g, o', none⟩) rfl (fun k hk => by simp at hk))
    have HX1 := hide X1
    have HX2 := hide X2
    have HX3 := hide X3
    clear X1 X2 X3 FAR FIN RDC
    go_wp2
    (try simp only [Exit.inBlock, Exit.then])
    refine bodyPost_ret (results_cell_row rfl _ _ W.heap.size 38 #[.int .i64 p.keep, .string p.put, .string p.drop] (0, 0) _ rfl HX1.out Tryd.underlying38 rfl Tryd.sizePart) rfl ?_
    exact ⟨rfl, HX2.out, HX3.out⟩
  · have hc2 : ¬ 1 = cap' := fun e => hc1 e.symm
    obtain ⟨⟨⟨p0, p1, p2⟩, ⟨r0, r1, r2⟩⟩, rf⟩ := FAR.out (.slice (some ⟨g, o' + 3, none⟩) r.length (cap' - 1))
    obtain ⟨X1, X2, X3⟩ := FIN.out (.slice (some ⟨g, o' + 3, none⟩) r.length (cap' - 1)) (RDC.out _ _ rfl (fun k hk => rfl))
    have HX1 := hide X1
    have HX2 := hide X2
    have HX3 := hide X3
    clear X1 X2 X3 FAR FIN RDC
    go_wp2
    (try simp only [Exit.inBlock, Exit.then])
    refine bodyPost_ret (results_cell_row rfl _ _ W.heap.size 38 #[.int .i64 p.keep, .string p.put, .string p.drop] (0, 0) _ rfl HX1.out Tryd.underlying38 rfl Tryd.sizePart) rfl ?_
    exact ⟨rfl, HX2.out, HX3.out⟩
end Go.Proofs.YtknilofnelhgmaaDoor

namespace Go.Proofs.YtknilofnelhgmaaDoor
open Go.RowKit
open Doc1

/-- A row of one's own with nothing in it. -/
theorem own_empty (w : World) : (w.alloc (.cells #[] 38)).ownsRow w.heap.size 38 3 (.slice (some ⟨w.heap.size, 0, none⟩) 0 0) 0 [] :=
  ⟨rfl, .inr ⟨w.heap.size, 0, #[], rfl, Nat.le_refl _, heap_alloc_new w _, Nat.le_refl _, Nat.zero_le _, rfl, rfl⟩⟩
theorem encP_one {l : List Pt} {t : Value} (h : t ∈ encP l) : t.oneCell' = true := by
  obtain ⟨p, _, hp⟩ := List.mem_flatMap.1 h
  simp only [ptC, List.mem_cons, List.not_mem_nil, or_false] at hp
  rcases hp with rfl | rfl | rfl <;> rfl
/-- What the walk needs when the copy is made. -/
structure Ct (W : World) (B g' f : Nat) (v u x : Value) (p p1 : Pt) (w4 : World) : Prop where
  a0 : w4.cell? ⟨W.heap.size + 1, 0, none⟩ = some (.int .i64 p.keep)
  a1 : w4.cell? ⟨W.heap.size + 1, 1, none⟩ = some (.string p.put)
  a2 : w4.cell? ⟨W.heap.size + 1, 2, none⟩ = some (.string p.drop)
  g0 : w4.cell? ⟨g', 0, none⟩ = some (.int .i64 p.keep)
  g1 : w4.cell? ⟨g', 1, none⟩ = some (.string p.put)
  g2 : w4.cell? ⟨g', 2, none⟩ = some (.string p.drop)
  gf : ∀ j, w4.frozen? ⟨g', j, none⟩ = false
  b0 : (w4.setCell ⟨g', f, none⟩ u).cell? ⟨W.heap.size + 1, 0, none⟩ = some (.int .i64 p.keep)
  b1 : (w4.setCell ⟨g', f, none⟩ u).cell? ⟨W.heap.size + 1, 1, none⟩ = some (.string p.put)
  b2 : (w4.setCell ⟨g', f, none⟩ u).cell? ⟨W.heap.size + 1, 2, none⟩ = some (.string p.drop)
  bf : ∀ j, (w4.setCell ⟨g', f, none⟩ u).frozen? ⟨W.heap.size + 1, j, none⟩ = false
  c0 : ∃ s, ((w4.setCell ⟨g', f, none⟩ u).setCell ⟨W.heap.size + 1, f, none⟩ x).cell? ⟨B, 0, none⟩ = some s
  cf : ((w4.setCell ⟨g', f, none⟩ u).setCell ⟨W.heap.size + 1, f, none⟩ x).frozen? ⟨B, 0, none⟩ = false
  d0 : (((w4.setCell ⟨g', f, none⟩ u).setCell ⟨W.heap.size + 1, f, none⟩ x).setCell ⟨B, 0, none⟩ v).cell? ⟨W.heap.size + 1, 0, none⟩ = some (.int .i64 p1.keep)
  d1 : (((w4.setCell ⟨g', f, none⟩ u).setCell ⟨W.heap.size + 1, f, none⟩ x).setCell ⟨B, 0, none⟩ v).cell? ⟨W.heap.size + 1, 1, none⟩ = some (.string p1.put)
  d2 : (((w4.setCell ⟨g', f, none⟩ u).setCell ⟨W.heap.size + 1, f, none⟩ x).setCell ⟨B, 0, none⟩ v).cell? ⟨W.heap.size + 1, 2, none⟩ = some (.string p1.drop)
  e0 : (((w4.setCell ⟨g', f, none⟩ u).setCell ⟨W.heap.size + 1, f, none⟩ x).setCell ⟨B, 0, none⟩ v).cell? ⟨W.heap.size, 0, none⟩ = some (.int .i64 0)
  e1 : (((w4.setCell ⟨g', f, none⟩ u).setCell ⟨W.heap.size + 1, f, none⟩ x).setCell ⟨B, 0, none⟩ v).cell? ⟨W.heap.size, 1, none⟩ = some (.string ⟨#[]⟩)
  e2 : (((w4.setCell ⟨g', f, none⟩ u).setCell ⟨W.heap.size + 1, f, none⟩ x).setCell ⟨B, 0, none⟩ v).cell? ⟨W.heap.size, 2, none⟩ = some (.string ⟨#[]⟩)
  ef : ∀ j, (((w4.setCell ⟨g', f, none⟩ u).setCell ⟨W.heap.size + 1, f, none⟩ x).setCell ⟨B, 0, none⟩ v).frozen? ⟨W.heap.size, j, none⟩ = false

def w8 (W w7 : World) (p1 : Pt) : World := ((w7.setCell ⟨W.heap.size, 0, none⟩ (.int .i64 p1.keep)).setCell ⟨W.heap.size, 1, none⟩ (.string p1.put)).setCell ⟨W.heap.size, 2, none⟩ (.string p1.drop)
theorem w8_far (W w7 : World) (p1 : Pt) (k : Nat) (hk : k ≠ W.heap.size) : (w8 W w7 p1).heap[k]? = w7.heap[k]? := by
  unfold w8
  exact ((Below.heap_setCell _ _ _ _ hk).trans (Below.heap_setCell _ _ _ _ hk)).trans (Below.heap_setCell _ _ _ _ hk)
theorem w8_size (W w7 : World) (p1 : Pt) : (w8 W w7 p1).heap.size = w7.heap.size := by unfold w8; simp
/-- What was written, told by blocks. -/
theorem cut_end {W w3 w4 w7 : World} {B g g' cap : Nat} {p p2 : Pt} {r : List Pt} (p1 : Pt) (tk : Tk W B g p r w3) (hB : B < W.heap.size) (hg : (w3.alloc (.cells #[] 38)).grownBy w4 (some w3.heap.size)) (h7 : w7.heap.size = w4.heap.size) (hgl : w3.heap.size ≤ g') (hgu : g' < w4.heap.size) (hc : r.length + 1 ≤ cap ∧ cap ≤ maxLen)
    (hcl : CLs w7 g' (encP (p2 :: r))) (cB : w7.cell? ⟨B, 0, none⟩ = some (.slice (some ⟨g', 0, none⟩) (r.length + 1) cap)) (fB : ∀ j, w7.frozen? ⟨B, j, none⟩ = false) (hk : ∀ k, k < W.heap.size → k ≠ B → w7.heap[k]? = w4.heap[k]?) (ho : w7.os = w4.os ∧ w7.tape = w4.tape ∧ w7.output = w4.output) :
    Rd (w8 W w7 p1) B g' (p2 :: r) ∧ W.grownBy (w8 W w7 p1) (some B) := by
  have hs := tk.sz
  have h4 : w3.heap.size + 1 ≤ w4.heap.size := by have := hg.size; simpa using this
  have fb := w8_far W w7 p1 B (by omega)
  have fg := w8_far W w7 p1 g' (by omega)
  have hsz := w8_size W w7 p1
  refine ⟨⟨⟨some ⟨g', 0, none⟩, 0, cap, (World.cell?_of_block fb).trans cB, hc, fun _ _ => rfl, fun j t ht => ?_⟩, fun j => (World.frozen?_of_block fb).trans (fB j), ⟨by omega, by omega⟩, by omega⟩, ?_⟩
  · rw [Nat.zero_add]; exact (World.cell?_of_block fg).trans (hcl j t ht)
  · have hbs := tk.gr
    refine ⟨(show w7.os = _ from ho.1).trans (hg.os.trans hbs.os), (show w7.tape = _ from ho.2.1).trans (hg.tape.trans hbs.tape), (show w7.output = _ from ho.2.2).trans (hg.output.trans hbs.output), by omega, fun k hk1 hne => ?_⟩
    rw [w8_far W w7 p1 k (by omega), hk k hk1 (fun e => hne (by rw [e])), hg.block k (by simp; omega) (fun e => by have := Option.some.inj e; omega), Below.heap_alloc _ _ _ (by omega)]
    exact hbs.block k hk1

theorem cut_all {W w3 w4 : World} {B g g' cap : Nat} {p p1 p2 : Pt} {r : List Pt} (tk : Tk W B g p r w3) (hB : B < W.heap.size) (own4 : POwn w4 w3.heap.size (.slice (some ⟨g', 0, none⟩) (r.length + 1) cap) (p :: r)) (hg : (w3.alloc (.cells #[] 38)).grownBy w4 (some w3.heap.size)) {f : Nat} (hf : f < 3) {u x : Value} (hu : (ptC p).set f u = ptC p2) (hx : (ptC p).set f x = ptC p1) :
    Ct W B g' f (.slice (some ⟨g', 0, none⟩) (r.length + 1) cap) u x p p1 w4 ∧ (w8 W (((w4.setCell ⟨g', f, none⟩ u).setCell ⟨W.heap.size + 1, f, none⟩ x).setCell ⟨B, 0, none⟩ (.slice (some ⟨g', 0, none⟩) (r.length + 1) cap)) p1).heap[W.heap.size]? = some (.cells #[.int .i64 p1.keep, .string p1.put, .string p1.drop] 38 (0, 0)) ∧
      Rd (w8 W (((w4.setCell ⟨g', f, none⟩ u).setCell ⟨W.heap.size + 1, f, none⟩ x).setCell ⟨B, 0, none⟩ (.slice (some ⟨g', 0, none⟩) (r.length + 1) cap)) p1) B g' (p2 :: r) ∧ W.heap.size ≤ g' ∧ W.grownBy (w8 W (((w4.setCell ⟨g', f, none⟩ u).setCell ⟨W.heap.size + 1, f, none⟩ x).setCell ⟨B, 0, none⟩ (.slice (some ⟨g', 0, none⟩) (r.length + 1) cap)) p1) (some B) := by
  have hs := tk.sz
  have h4 : w4.heap.size ≥ w3.heap.size + 1 := by have := hg.size; simpa using this
  have same : ∀ k, k < w3.heap.size → w4.heap[k]? = w3.heap[k]? := fun k hk => (hg.block k (by simp; omega) (fun e => by have := Option.some.inj e; omega)).trans (Below.heap_alloc _ _ _ hk)
  obtain ⟨gg, cc, ev, h1, h2, hgl, hgu, hcl, hbk⟩ := own4.shape (by simp)
  cases ev
  have hP4 := (same (W.heap.size + 1) (by omega)).trans tk.hP
  have hR4 := (same W.heap.size (by omega)).trans tk.hR
  have hB4 := same B (by omega)
  have ec : encP (p :: r) = ptC p ++ encP r := by simp [encP]
  have n1 : W.heap.size + 1 ≠ g' := by omega
  have n2 : B ≠ g' := by omega
  have n3 : B ≠ W.heap.size + 1 := by omega
  have n4 : W.heap.size ≠ g' := by omega
  have q5 : (w4.setCell ⟨g', f, none⟩ u).heap[W.heap.size + 1]? = some (.cells #[.int .i64 p.keep, .string p.put, .string p.drop] 38 (0, 0)) := (Below.heap_setCell _ _ _ _ n1).trans hP4
  have q6 : ((w4.setCell ⟨g', f, none⟩ u).setCell ⟨W.heap.size + 1, f, none⟩ x).heap[W.heap.size + 1]? = some (.cells #[.int .i64 p1.keep, .string p1.put, .string p1.drop] 38 (0, 0)) := by
    rw [cells_set q5 f x]
    have e : (#[.int .i64 p.keep, .string p.put, .string p.drop] : Array Value).set! f x = (ptC p1).toArray := by
      rw [← hx]
      have : f = 0 ∨ f = 1 ∨ f = 2 := by omega
      rcases this with rfl | rfl | rfl <;> rfl
    rw [e]; rfl
  have r6 : ((w4.setCell ⟨g', f, none⟩ u).setCell ⟨W.heap.size + 1, f, none⟩ x).heap[B]? = w3.heap[B]? := (Below.heap_setCell _ _ _ _ n3).trans ((Below.heap_setCell _ _ _ _ n2).trans hB4)
  have q7 := (Below.heap_setCell ((w4.setCell ⟨g', f, none⟩ u).setCell ⟨W.heap.size + 1, f, none⟩ x) ⟨B, 0, none⟩ (.slice (some ⟨g', 0, none⟩) (r.length + 1) cap) (W.heap.size + 1) (Ne.symm n3)).trans q6
  have s7 : (((w4.setCell ⟨g', f, none⟩ u).setCell ⟨W.heap.size + 1, f, none⟩ x).setCell ⟨B, 0, none⟩ (.slice (some ⟨g', 0, none⟩) (r.length + 1) cap)).heap[W.heap.size]? = some (.cells #[.int .i64 0, .string ⟨#[]⟩, .string ⟨#[]⟩] 38 (0, 0)) :=
    (Below.heap_setCell _ _ _ _ (by show W.heap.size ≠ B; omega)).trans ((Below.heap_setCell _ _ _ _ (by show W.heap.size ≠ W.heap.size + 1; omega)).trans ((Below.heap_setCell _ _ _ _ n4).trans hR4))
  obtain ⟨⟨a0, a1, a2⟩, -⟩ := cells3_of hP4
  obtain ⟨⟨b0, b1, b2⟩, bf⟩ := cells3_of q5
  obtain ⟨⟨d0, d1, d2⟩, -⟩ := cells3_of q7
  obtain ⟨⟨e0, e1, e2⟩, ef⟩ := cells3_of s7
  obtain ⟨o', cap', hb0, -, -, -, -⟩ := tk.rd.cons
  have gg0 : ∀ j t, (ptC p)[j]? = some t → w4.cell? ⟨g', j, none⟩ = some t := fun j t ht => hcl j t (by rw [ec, List.getElem?_append_left (by have := (List.getElem?_eq_some_iff.1 ht).1; exact this)]; exact ht)
  have cB : ((w4.setCell ⟨g', f, none⟩ u).setCell ⟨W.heap.size + 1, f, none⟩ x).cell? ⟨B, 0, none⟩ = some (.slice (some ⟨g, o', none⟩) (r.length + 1) cap') := (World.cell?_of_block r6).trans hb0
  have hst : POwn (w4.setCell ⟨g', f, none⟩ u) w3.heap.size (.slice (some ⟨g', 0, none⟩) (r.length + 1) cap) (p2 :: r) := by
    have := POwn.set (a := []) (b := r) (x := p) (x' := p2) (n := r.length + 1) own4 (by simp) f u hf hu
    rw [show ([] : List Pt).length * 3 + f = f by simp] at this
    exact this
  obtain ⟨g2, c2, ev2, -, -, -, -, hcl2, -⟩ := hst.shape (by simp)
  cases ev2
  have fg : (((w4.setCell ⟨g', f, none⟩ u).setCell ⟨W.heap.size + 1, f, none⟩ x).setCell ⟨B, 0, none⟩ (.slice (some ⟨g', 0, none⟩) (r.length + 1) cap)).heap[g']? = (w4.setCell ⟨g', f, none⟩ u).heap[g']? := (Below.heap_setCell _ _ _ _ (Ne.symm n2)).trans (Below.heap_setCell _ _ _ _ (Ne.symm n1))
  have hcl7 : CLs (((w4.setCell ⟨g', f, none⟩ u).setCell ⟨W.heap.size + 1, f, none⟩ x).setCell ⟨B, 0, none⟩ (.slice (some ⟨g', 0, none⟩) (r.length + 1) cap)) g' (encP (p2 :: r)) := fun j t ht => (World.cell?_of_block fg).trans (hcl2 j t ht)
  have cB7 := World.cell?_setCell_same _ ⟨B, 0, none⟩ (.slice (some ⟨g', 0, none⟩) (r.length + 1) cap) cB
  have fB7 : ∀ j, (((w4.setCell ⟨g', f, none⟩ u).setCell ⟨W.heap.size + 1, f, none⟩ x).setCell ⟨B, 0, none⟩ (.slice (some ⟨g', 0, none⟩) (r.length + 1) cap)).frozen? ⟨B, j, none⟩ = false := fun j => by
    rw [World.frozen?_setCell]; exact (World.frozen?_of_block r6).trans (tk.rd.fz j)
  have k7 : ∀ k, k < W.heap.size → k ≠ B → (((w4.setCell ⟨g', f, none⟩ u).setCell ⟨W.heap.size + 1, f, none⟩ x).setCell ⟨B, 0, none⟩ (.slice (some ⟨g', 0, none⟩) (r.length + 1) cap)).heap[k]? = w4.heap[k]? := fun k h1 h2 => (Below.heap_setCell _ _ _ _ h2).trans ((Below.heap_setCell _ _ _ _ (by show k ≠ W.heap.size + 1; omega)).trans (Below.heap_setCell _ _ _ _ (by show k ≠ g'; omega)))
  have z7 : (((w4.setCell ⟨g', f, none⟩ u).setCell ⟨W.heap.size + 1, f, none⟩ x).setCell ⟨B, 0, none⟩ (.slice (some ⟨g', 0, none⟩) (r.length + 1) cap)).heap.size = w4.heap.size := by simp
  have o7 : (((w4.setCell ⟨g', f, none⟩ u).setCell ⟨W.heap.size + 1, f, none⟩ x).setCell ⟨B, 0, none⟩ (.slice (some ⟨g', 0, none⟩) (r.length + 1) cap)).os = w4.os ∧ (((w4.setCell ⟨g', f, none⟩ u).setCell ⟨W.heap.size + 1, f, none⟩ x).setCell ⟨B, 0, none⟩ (.slice (some ⟨g', 0, none⟩) (r.length + 1) cap)).tape = w4.tape ∧ (((w4.setCell ⟨g', f, none⟩ u).setCell ⟨W.heap.size + 1, f, none⟩ x).setCell ⟨B, 0, none⟩ (.slice (some ⟨g', 0, none⟩) (r.length + 1) cap)).output = w4.output := ⟨rfl, rfl, rfl⟩
  have hct : Ct W B g' f (.slice (some ⟨g', 0, none⟩) (r.length + 1) cap) u x p p1 w4 := ⟨a0, a1, a2, gg0 0 _ rfl, gg0 1 _ rfl, gg0 2 _ rfl, hbk.fz, b0, b1, b2, bf, ⟨_, cB⟩, (World.frozen?_of_block r6).trans (tk.rd.fz 0), d0, d1, d2, e0, e1, e2, ef⟩
  refine ⟨hct, ?_⟩
  clear hct a0 a1 a2 b0 b1 b2 bf d0 d1 d2 e0 e1 e2 ef q7 q6 q5 r6 fg hcl2 hst cB gg0
  generalize ((w4.setCell ⟨g', f, none⟩ u).setCell ⟨W.heap.size + 1, f, none⟩ x).setCell ⟨B, 0, none⟩ (.slice (some ⟨g', 0, none⟩) (r.length + 1) cap) = w7 at *
  obtain ⟨y1, y2⟩ := cut_end p1 tk hB hg z7 hgl hgu ⟨h1, h2⟩ hcl7 cB7 fB7 k7 o7
  exact ⟨by unfold w8; exact row3_put s7 _ _ _, y1, by omega, y2⟩

end Go.Proofs.YtknilofnelhgmaaDoor
