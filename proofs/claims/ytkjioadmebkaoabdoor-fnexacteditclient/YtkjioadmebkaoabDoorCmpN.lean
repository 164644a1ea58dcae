/- The model's reader of a change, l3R: done, size, take. The model's reader of a change: take. The model's reader of a change: take, where a part is cut. The model's reader of a change: take, where a part is cut. The plain mathematics of a reader that cuts parts, and the model's take of any good part. The model's l3Compose. The contract of the model's ComposeOps. -/
import Derived.Test.YtkjioadmebkaoabDoorKeep1
import Derived.Test.YtkjioadmebkaoabDoorOpSA
import Derived.Deep.QuietTactic
import Derived.BigQuiet
import Derived.Test.YtkjioadmebkaoabDoorOpSM
import Derived.Test.YtkjioadmebkaoabDoorCompM
import Derived.Test.YtkjioadmebkaoabDoorComp4
import Derived.Test.YtkjioadmebkaoabDoorMoveSZ
namespace Go.Proofs.YtkjioadmebkaoabDoor
open Go.RowKit
open Doc1

/-- A reader in block B: what is left lies in block g. -/
structure Rd (W : World) (B g : Nat) (l : List Pt) : Prop where
  ex : ∃ (a : Option Addr) (o cap : Nat), W.cell? ⟨B, 0, none⟩ = some (.slice a l.length cap) ∧ (l.length ≤ cap ∧ cap ≤ maxLen) ∧ (∀ k, k < l.length → a = some ⟨g, o, none⟩) ∧
    ∀ j u, (encP l)[j]? = some u → W.cell? ⟨g, o + j, none⟩ = some u
  fz : ∀ j, W.frozen? ⟨B, j, none⟩ = false
  lt : B < W.heap.size ∧ g < W.heap.size
  ne : g ≠ B
theorem Rd.kept {W W' : World} {B g : Nat} {l : List Pt} (h : Rd W B g l) (h1 : W'.heap[B]? = W.heap[B]?) (h2 : W'.heap[g]? = W.heap[g]?) (hs : W.heap.size ≤ W'.heap.size) : Rd W' B g l := by
  obtain ⟨a, o, cap, e1, e2, e3, e4⟩ := h.ex
  exact ⟨⟨a, o, cap, (World.cell?_of_block h1).trans e1, e2, e3, fun j u hu => (World.cell?_of_block h2).trans (e4 j u hu)⟩, fun j => (World.frozen?_of_block h1).trans (h.fz j), ⟨by have := h.lt; omega, by have := h.lt; omega⟩, h.ne⟩
theorem Rd.grown {W W' : World} {B g : Nat} {l : List Pt} {r : Option Nat} (h : Rd W B g l) (hg : W.grownBy W' r) (h1 : r ≠ some B) (h2 : r ≠ some g) : Rd W' B g l :=
  h.kept (hg.block B h.lt.1 (Ne.symm h1)) (hg.block g h.lt.2 (Ne.symm h2)) hg.size
theorem Rd.up {W W' : World} {B g : Nat} {l : List Pt} (h : Rd W B g l) (hb : Below W.heap.size W W') : Rd W' B g l := h.kept (hb.block B h.lt.1) (hb.block g h.lt.2) hb.size
/-- The first part that is left. -/
theorem Rd.cons {W : World} {B g : Nat} {p : Pt} {r : List Pt} (h : Rd W B g (p :: r)) : ∃ o cap, W.cell? ⟨B, 0, none⟩ = some (.slice (some ⟨g, o, none⟩) (r.length + 1) cap) ∧ (r.length + 1 ≤ cap ∧ cap ≤ maxLen) ∧
    (W.cell? ⟨g, o, none⟩ = some (.int .i64 p.keep) ∧ W.cell? ⟨g, o + 1, none⟩ = some (.string p.put) ∧ W.cell? ⟨g, o + 2, none⟩ = some (.string p.drop)) ∧ (∀ j u, (encP (p :: r))[j]? = some u → W.cell? ⟨g, o + j, none⟩ = some u) ∧ ∀ j u, (encP r)[j]? = some u → W.cell? ⟨g, o + 3 + j, none⟩ = some u := by
  obtain ⟨a, o, cap, e1, e2, e3, e4⟩ := h.ex
  obtain rfl := e3 0 (by simp)
  have ec : encP (p :: r) = ptC p ++ encP r := by simp [encP]
  refine ⟨o, cap, e1, e2, ⟨?_, ?_, ?_⟩, e4, fun j u hu => ?_⟩
  · have := e4 0 (.int .i64 p.keep) (by rw [ec]; rfl)
    simpa using this
  · exact e4 1 _ (by rw [ec]; rfl)
  · exact e4 2 _ (by rw [ec]; rfl)
  · have := e4 (3 + j) u (by rw [ec, List.getElem?_append_right (by simp [ptC])]; simpa [ptC] using hu)
    rw [show o + 3 + j = o + (3 + j) by omega]; exact this
/-- A new reader. -/
theorem rd_new {W : World} {g cap : Nat} {a : Option Addr} {l : List Pt} (hc : l.length ≤ cap ∧ cap ≤ maxLen) (ha : ∀ k, k < l.length → a = some ⟨g, 0, none⟩) (hl : CLs W g (encP l)) (hg : g < W.heap.size) (t : TypeId) : Rd (W.alloc (.cells #[.slice a l.length cap] t)) W.heap.size g l := by
  have hh := heap_alloc_new W (.cells #[.slice a l.length cap] t)
  refine ⟨⟨a, 0, cap, ?_, hc, ha, fun j u hu => ?_⟩, fun j => ?_, ⟨by simp, by simp; omega⟩, by omega⟩
  · unfold World.cell?; rw [hh]; rfl
  · rw [Nat.zero_add]
    exact (World.cell?_of_block (Below.heap_alloc W _ g hg)).trans (hl j u hu)
  · unfold World.frozen?; rw [hh]; simp

set_option maxHeartbeats 1000000 in
theorem done_any {W : World} {B g : Nat} {l : List Pt} (h : Rd W B g l) :
    Calls Tryd.prog 91 #[.pointer (some ⟨B, 0, none⟩)] W fun e w' => e = .returned (.bool (decide (l = []))) ∧ w' = W := by
  obtain ⟨a, o, cap, e1, e2, -, -⟩ := h.ex
  clear h
  cases l with
  | nil =>
    go_enter Tryd.func91, Tryd.ntmps91
    go_wp2
    go_ret
    exact ⟨rfl, rfl⟩
  | cons p r =>
    have hn : ((r.length : Int) + 1 == 0) = false := by rw [beq_eq_false_iff_ne]; omega
    simp only [List.length_cons] at e1 e2
    go_enter Tryd.func91, Tryd.ntmps91
    go_wp2
    go_ret
    exact ⟨rfl, rfl⟩
def psz (p : Pt) : Int := p.keep + (p.put.size : Int) + (p.drop.size : Int)

set_option maxRecDepth 100000 in
set_option maxHeartbeats 1000000 in
theorem size_any {W : World} {B g : Nat} {p : Pt} {r : List Pt} (h : Rd W B g (p :: r)) (hk : 0 ≤ p.keep ∧ p.keep ≤ 300) (hp : p.put.size ≤ 300) (hd : p.drop.size ≤ 300) :
    Calls Tryd.prog 93 #[.pointer (some ⟨B, 0, none⟩)] W fun e w' => e = .returned (.int .i64 (psz p)) ∧ ∃ n, w' = W.drewN n := by
  obtain ⟨o, cap, e1, e2, ⟨c0, c1, c2⟩, -, -⟩ := h.cons
  unfold psz
  clear h
  go_enter Tryd.func93, Tryd.ntmps93
  go_wp2
  go_quiet (fail)
  go_wp2
  go_ret
  exact ⟨rfl, _, rfl⟩
end Go.Proofs.YtkjioadmebkaoabDoor

namespace Go.Proofs.YtkjioadmebkaoabDoor
open Go.RowKit
open Doc1

theorem cells_set {w : World} {g : Nat} {cs : Array Value} {t : TypeId} {fr : Nat × Nat} (h : w.heap[g]? = some (.cells cs t fr)) (j : Nat) (v : Value) : (w.setCell ⟨g, j, none⟩ v).heap[g]? = some (.cells (cs.set! j v) t fr) := by
  have hl : g < w.heap.size := (Array.getElem?_eq_some_iff.1 h).1
  show (w.heap.modify g _)[g]? = _
  rw [Array.getElem?_eq_getElem (by rw [Array.size_modify]; exact hl), Array.getElem_modify_self]
  have e : w.heap[g] = .cells cs t fr := by rw [Array.getElem?_eq_getElem hl] at h; exact Option.some.inj h
  rw [e]
  rfl
theorem row3_put {w : World} {g : Nat} {a b c : Value} {t : TypeId} {fr : Nat × Nat} (h : w.heap[g]? = some (.cells #[a, b, c] t fr)) (x y z : Value) : (((w.setCell ⟨g, 0, none⟩ x).setCell ⟨g, 1, none⟩ y).setCell ⟨g, 2, none⟩ z).heap[g]? = some (.cells #[x, y, z] t fr) := cells_set (cells_set (cells_set h 0 x) 1 y) 2 z
theorem cells3_of {w : World} {g : Nat} {a b c : Value} {t : TypeId} (h : w.heap[g]? = some (.cells #[a, b, c] t (0, 0))) : (w.cell? ⟨g, 0, none⟩ = some a ∧ w.cell? ⟨g, 1, none⟩ = some b ∧ w.cell? ⟨g, 2, none⟩ = some c) ∧ ∀ j, w.frozen? ⟨g, j, none⟩ = false := by
  refine ⟨⟨?_, ?_, ?_⟩, fun j => ?_⟩
  · simp [World.cell?, h]
  · simp [World.cell?, h]
  · simp [World.cell?, h]
  · simp [World.frozen?, h]
theorem Tryd.sizePart : (Tryd.prog.info? 79).map (·.size) = some 3 := by kernel_rfl
/-- What lies ready when the size is known. -/
structure Tk (W : World) (B g : Nat) (p : Pt) (r : List Pt) (w3 : World) : Prop where
  rd : Rd w3 B g (p :: r)
  hR : w3.heap[W.heap.size]? = some (.cells #[.int .i64 0, .string ⟨#[]⟩, .string ⟨#[]⟩] 79 (0, 0))
  hP : w3.heap[W.heap.size + 1]? = some (.cells #[.int .i64 p.keep, .string p.put, .string p.drop] 79 (0, 0))
  gr : Below W.heap.size W w3
  sz : W.heap.size + 2 ≤ w3.heap.size
theorem tk_size {W : World} {B g : Nat} {p : Pt} {r : List Pt} (h : Rd W B g (p :: r)) (hk : 0 ≤ p.keep ∧ p.keep ≤ 300) (hp : p.put.size ≤ 300) (hd : p.drop.size ≤ 300) :
    Calls Tryd.prog 93 #[.pointer (some ⟨B, 0, none⟩)] ((W.alloc (.cells #[.int .i64 0, .string ⟨#[]⟩, .string ⟨#[]⟩] 79)).alloc (.cells #[.int .i64 p.keep, .string p.put, .string p.drop] 79)) fun e w' => e = .returned (.int .i64 (psz p)) ∧ Tk W B g p r w' := by
  have hB : Below W.heap.size W ((W.alloc (.cells #[.int .i64 0, .string ⟨#[]⟩, .string ⟨#[]⟩] 79)).alloc (.cells #[.int .i64 p.keep, .string p.put, .string p.drop] 79)) := ((Below.refl _ _).alloc (Nat.le_refl _) _).alloc (by simp) _
  refine (size_any (h.up hB) hk hp hd).mono ?_
  rintro e w' ⟨he, n, rfl⟩
  have h1 := heap_alloc_new W (.cells #[.int .i64 0, .string ⟨#[]⟩, .string ⟨#[]⟩] 79)
  have h2 := heap_alloc_new (W.alloc (.cells #[.int .i64 0, .string ⟨#[]⟩, .string ⟨#[]⟩] 79)) (.cells #[.int .i64 p.keep, .string p.put, .string p.drop] 79)
  rw [World.size_alloc] at h2
  refine ⟨he, (h.up hB).kept rfl rfl (Nat.le_refl _), (Below.heap_alloc _ _ _ (by simp)).trans h1, h2, ⟨hB.os, hB.tape, hB.output, hB.size, hB.block⟩, by show _ ≤ ((W.alloc _).alloc _).heap.size; simp⟩

set_option maxRecDepth 100000 in
set_option maxHeartbeats 2000000 in
theorem take_whole {W : World} {B g : Nat} {p : Pt} {r : List Pt} (h : Rd W B g (p :: r)) (hk : 0 ≤ p.keep ∧ p.keep ≤ 300) (hp : p.put.size ≤ 300) (hd : p.drop.size ≤ 300) :
    Calls Tryd.prog 92 #[.pointer (some ⟨B, 0, none⟩), .int .i64 (psz p)] W fun e w' => e = .returned (ptV p) ∧ Rd w' B g r ∧ W.grownBy w' (some B) := by
  have SZ := hide (tk_size h hk hp hd)
  obtain ⟨o, cap, e1, e2, ⟨c0, c1, c2⟩, -, -⟩ := h.cons
  have hlt := h.lt
  clear h
  unfold ptV
  generalize psz p = n at *
  go_enter Tryd.func92, Tryd.ntmps92
  go_wp2_with fail
  refine SZ.out.mono ?_
  rintro e w3 ⟨rfl, tk⟩
  obtain ⟨o', cap', b0, hcap', -, -, hrest⟩ := tk.rd.cons
  have hs3 := tk.sz
  have bf := tk.rd.fz 0
  clear e1 c0 c1 c2 SZ e2
  have FAR : Hid (∀ v : Value, (((w3.setCell ⟨B, 0, none⟩ v).cell? ⟨W.heap.size + 1, 0, none⟩ = some (.int .i64 p.keep) ∧ (w3.setCell ⟨B, 0, none⟩ v).cell? ⟨W.heap.size + 1, 1, none⟩ = some (.string p.put) ∧ (w3.setCell ⟨B, 0, none⟩ v).cell? ⟨W.heap.size + 1, 2, none⟩ = some (.string p.drop)) ∧
      ((w3.setCell ⟨B, 0, none⟩ v).cell? ⟨W.heap.size, 0, none⟩ = some (.int .i64 0) ∧ (w3.setCell ⟨B, 0, none⟩ v).cell? ⟨W.heap.size, 1, none⟩ = some (.string ⟨#[]⟩) ∧ (w3.setCell ⟨B, 0, none⟩ v).cell? ⟨W.heap.size, 2, none⟩ = some (.string ⟨#[]⟩))) ∧ (∀ j, (w3.setCell ⟨B, 0, none⟩ v).frozen? ⟨W.heap.size, j, none⟩ = false)) := hide (fun v => by
    have f1 := cells3_of ((Below.heap_setCell w3 ⟨B, 0, none⟩ v (W.heap.size + 1) (by show W.heap.size + 1 ≠ B; omega)).trans tk.hP)
    have f2 := cells3_of ((Below.heap_setCell w3 ⟨B, 0, none⟩ v W.heap.size (by show W.heap.size ≠ B; omega)).trans tk.hR)
    exact ⟨⟨f1.1, f2.1⟩, f2.2⟩)
  have FIN : Hid (∀ v : Value, Rd (w3.setCell ⟨B, 0, none⟩ v) B g r → (((((w3.setCell ⟨B, 0, none⟩ v).setCell ⟨W.heap.size, 0, none⟩ (.int .i64 p.keep)).setCell ⟨W.heap.size, 1, none⟩ (.string p.put)).setCell ⟨W.heap.size, 2, none⟩ (.string p.drop)).heap[W.heap.size]? = some (.cells #[.int .i64 p.keep, .string p.put, .string p.drop] 79 (0, 0))) ∧
      Rd ((((w3.setCell ⟨B, 0, none⟩ v).setCell ⟨W.heap.size, 0, none⟩ (.int .i64 p.keep)).setCell ⟨W.heap.size, 1, none⟩ (.string p.put)).setCell ⟨W.heap.size, 2, none⟩ (.string p.drop)) B g r ∧
      W.grownBy ((((w3.setCell ⟨B, 0, none⟩ v).setCell ⟨W.heap.size, 0, none⟩ (.int .i64 p.keep)).setCell ⟨W.heap.size, 1, none⟩ (.string p.put)).setCell ⟨W.heap.size, 2, none⟩ (.string p.drop)) (some B)) := hide (fun v hr => by
    have hR := (Below.heap_setCell w3 ⟨B, 0, none⟩ v W.heap.size (by show W.heap.size ≠ B; omega)).trans tk.hR
    have same : ∀ k, k ≠ W.heap.size → ((((w3.setCell ⟨B, 0, none⟩ v).setCell ⟨W.heap.size, 0, none⟩ (.int .i64 p.keep)).setCell ⟨W.heap.size, 1, none⟩ (.string p.put)).setCell ⟨W.heap.size, 2, none⟩ (.string p.drop)).heap[k]? = (w3.setCell ⟨B, 0, none⟩ v).heap[k]? := fun k hk => ((Below.heap_setCell _ _ _ _ hk).trans (Below.heap_setCell _ _ _ _ hk)).trans (Below.heap_setCell _ _ _ _ hk)
    refine ⟨row3_put hR _ _ _, hr.kept (same B (by omega)) (same g (by omega)) (by simp), ⟨tk.gr.os, tk.gr.tape, tk.gr.output, by have := tk.gr.size; simpa using this, fun k hk hne => ?_⟩⟩
    exact (same k (by omega)).trans ((Below.heap_setCell _ _ _ _ (fun e => hne (by rw [show k = B from e]))).trans (tk.gr.block k hk)))
  have RDC : Hid (∀ v a, v = Value.slice a r.length (cap' - 1) → (∀ k, k < r.length → a = some ⟨g, o' + 3, none⟩) → Rd (w3.setCell ⟨B, 0, none⟩ v) B g r) := hide (fun v a hv ha => by
    have hne := tk.rd.ne
    refine ⟨⟨a, o' + 3, cap' - 1, by rw [World.cell?_setCell_same _ _ _ b0, hv], ⟨by omega, by omega⟩, ha, fun j u hu => (World.cell?_of_block (Below.heap_setCell _ _ _ _ hne)).trans (hrest j u hu)⟩, fun j => by rw [World.frozen?_setCell]; exact tk.rd.fz j, ⟨by have := tk.rd.lt; simpa using this.1, by have := tk.rd.lt; simpa using this.2⟩, hne⟩)
  clear hrest tk
  by_cases hc1 : cap' = 1
  · subst hc1
    obtain rfl : r = [] := List.eq_nil_of_length_eq_zero (by omega)
    obtain ⟨⟨⟨p0, p1, p2⟩, ⟨r0, r1, r2⟩⟩, rf⟩ := FAR.out (.slice (some ⟨g, o', none⟩) 0 0)
    obtain ⟨X1, X2, X3⟩ := FIN.out (.slice (some ⟨g, o', none⟩) 0 0) (RDC.out _ (some ⟨g, o', none⟩) rfl (fun k hk => by simp at hk))
    have HX1 := hide X1
    have HX2 := hide X2
    have HX3 := hide X3
    clear X1 X2 X3 FAR FIN RDC
    go_wp2
    (try simp only [Exit.inBlock, Exit.then])
    refine bodyPost_ret (results_cell_row rfl _ _ W.heap.size 79 #[.int .i64 p.keep, .string p.put, .string p.drop] (0, 0) _ rfl HX1.out Tryd.underlying79 rfl Tryd.sizePart) rfl ?_
    exact ⟨rfl, HX2.out, HX3.out⟩
  · have hc2 : ¬ 1 = cap' := fun e => hc1 e.symm
    obtain ⟨⟨⟨p0, p1, p2⟩, ⟨r0, r1, r2⟩⟩, rf⟩ := FAR.out (.slice (some ⟨g, o' + 3, none⟩) r.length (cap' - 1))
    obtain ⟨X1, X2, X3⟩ := FIN.out (.slice (some ⟨g, o' + 3, none⟩) r.length (cap' - 1)) (RDC.out _ _ rfl (fun k hk => rfl))
    have HX1 := hide X1
    have HX2 := hide X2
    have HX3 := hide X3
    clear X1 X2 X3 FAR FIN RDC
    go_wp2
    (try simp only [Exit.inBlock, Exit.then])
    refine bodyPost_ret (results_cell_row rfl _ _ W.heap.size 79 #[.int .i64 p.keep, .string p.put, .string p.drop] (0, 0) _ rfl HX1.out Tryd.underlying79 rfl Tryd.sizePart) rfl ?_
    exact ⟨rfl, HX2.out, HX3.out⟩
end Go.Proofs.YtkjioadmebkaoabDoor

namespace Go.Proofs.YtkjioadmebkaoabDoor
open Go.RowKit
open Doc1

/-- A row of one's own with nothing in it. -/
theorem own_empty (w : World) : (w.alloc (.cells #[] 79)).ownsRow w.heap.size 79 3 (.slice (some ⟨w.heap.size, 0, none⟩) 0 0) 0 [] :=
  ⟨rfl, .inr ⟨w.heap.size, 0, #[], rfl, Nat.le_refl _, heap_alloc_new w _, Nat.le_refl _, Nat.zero_le _, rfl, rfl⟩⟩
theorem encP_one {l : List Pt} {t : Value} (h : t ∈ encP l) : t.oneCell' = true := by
  obtain ⟨p, _, hp⟩ := List.mem_flatMap.1 h
  simp only [ptC, List.mem_cons, List.not_mem_nil, or_false] at hp
  rcases hp with rfl | rfl | rfl <;> rfl
/-- What the walk needs when the copy is made. -/
structure Ct (W : World) (B g' f : Nat) (v u x : Value) (p p1 : Pt) (w4 : World) : Prop where
  a0 : w4.cell? ⟨W.heap.size + 1, 0, none⟩ = some (.int .i64 p.keep)
  a1 : w4.cell? ⟨W.heap.size + 1, 1, none⟩ = some (.string p.put)
  a2 : w4.cell? ⟨W.heap.size + 1, 2, none⟩ = some (.string p.drop)
  g0 : w4.cell? ⟨g', 0, none⟩ = some (.int .i64 p.keep)
  g1 : w4.cell? ⟨g', 1, none⟩ = some (.string p.put)
  g2 : w4.cell? ⟨g', 2, none⟩ = some (.string p.drop)
  gf : ∀ j, w4.frozen? ⟨g', j, none⟩ = false
  b0 : (w4.setCell ⟨g', f, none⟩ u).cell? ⟨W.heap.size + 1, 0, none⟩ = some (.int .i64 p.keep)
  b1 : (w4.setCell ⟨g', f, none⟩ u).cell? ⟨W.heap.size + 1, 1, none⟩ = some (.string p.put)
  b2 : (w4.setCell ⟨g', f, none⟩ u).cell? ⟨W.heap.size + 1, 2, none⟩ = some (.string p.drop)
  bf : ∀ j, (w4.setCell ⟨g', f, none⟩ u).frozen? ⟨W.heap.size + 1, j, none⟩ = false
  c0 : ∃ s, ((w4.setCell ⟨g', f, none⟩ u).setCell ⟨W.heap.size + 1, f, none⟩ x).cell? ⟨B, 0, none⟩ = some s
  cf : ((w4.setCell ⟨g', f, none⟩ u).setCell ⟨W.heap.size + 1, f, none⟩ x).frozen? ⟨B, 0, none⟩ = false
  d0 : (((w4.setCell ⟨g', f, none⟩ u).setCell ⟨W.heap.size + 1, f, none⟩ x).setCell ⟨B, 0, none⟩ v).cell? ⟨W.heap.size + 1, 0, none⟩ = some (.int .i64 p1.keep)
  d1 : (((w4.setCell ⟨g', f, none⟩ u).setCell ⟨W.heap.size + 1, f, none⟩ x).setCell ⟨B, 0, none⟩ v).cell? ⟨W.heap.size + 1, 1, none⟩ = some (.string p1.put)
  d2 : (((w4.setCell ⟨g', f, none⟩ u).setCell ⟨W.heap.size + 1, f, none⟩ x).setCell ⟨B, 0, none⟩ v).cell? ⟨W.heap.size + 1, 2, none⟩ = some (.string p1.drop)
  e0 : (((w4.setCell ⟨g', f, none⟩ u).setCell ⟨W.heap.size + 1, f, none⟩ x).setCell ⟨B, 0, none⟩ v).cell? ⟨W.heap.size, 0, none⟩ = some (.int .i64 0)
  e1 : (((w4.setCell ⟨g', f, none⟩ u).setCell ⟨W.heap.size + 1, f, none⟩ x).setCell ⟨B, 0, none⟩ v).cell? ⟨W.heap.size, 1, none⟩ = some (.string ⟨#[]⟩)
  e2 : (((w4.setCell ⟨g', f, none⟩ u).setCell ⟨W.heap.size + 1, f, none⟩ x).setCell ⟨B, 0, none⟩ v).cell? ⟨W.heap.size, 2, none⟩ = some (.string ⟨#[]⟩)
  ef : ∀ j, (((w4.setCell ⟨g', f, none⟩ u).setCell ⟨W.heap.size + 1, f, none⟩ x).setCell ⟨B, 0, none⟩ v).frozen? ⟨W.heap.size, j, none⟩ = false

def w8 (W w7 : World) (p1 : Pt) : World := ((w7.setCell ⟨W.heap.size, 0, none⟩ (.int .i64 p1.keep)).setCell ⟨W.heap.size, 1, none⟩ (.string p1.put)).setCell ⟨W.heap.size, 2, none⟩ (.string p1.drop)
theorem w8_far (W w7 : World) (p1 : Pt) (k : Nat) (hk : k ≠ W.heap.size) : (w8 W w7 p1).heap[k]? = w7.heap[k]? := by
  unfold w8
  exact ((Below.heap_setCell _ _ _ _ hk).trans (Below.heap_setCell _ _ _ _ hk)).trans (Below.heap_setCell _ _ _ _ hk)
theorem w8_size (W w7 : World) (p1 : Pt) : (w8 W w7 p1).heap.size = w7.heap.size := by unfold w8; simp
/-- What was written, told by blocks. -/
theorem cut_end {W w3 w4 w7 : World} {B g g' cap : Nat} {p p2 : Pt} {r : List Pt} (p1 : Pt) (tk : Tk W B g p r w3) (hB : B < W.heap.size) (hg : (w3.alloc (.cells #[] 79)).grownBy w4 (some w3.heap.size)) (h7 : w7.heap.size = w4.heap.size) (hgl : w3.heap.size ≤ g') (hgu : g' < w4.heap.size) (hc : r.length + 1 ≤ cap ∧ cap ≤ maxLen)
    (hcl : CLs w7 g' (encP (p2 :: r))) (cB : w7.cell? ⟨B, 0, none⟩ = some (.slice (some ⟨g', 0, none⟩) (r.length + 1) cap)) (fB : ∀ j, w7.frozen? ⟨B, j, none⟩ = false) (hk : ∀ k, k < W.heap.size → k ≠ B → w7.heap[k]? = w4.heap[k]?) (ho : w7.os = w4.os ∧ w7.tape = w4.tape ∧ w7.output = w4.output) :
    Rd (w8 W w7 p1) B g' (p2 :: r) ∧ W.grownBy (w8 W w7 p1) (some B) := by
  have hs := tk.sz
  have h4 : w3.heap.size + 1 ≤ w4.heap.size := by have := hg.size; simpa using this
  have fb := w8_far W w7 p1 B (by omega)
  have fg := w8_far W w7 p1 g' (by omega)
  have hsz := w8_size W w7 p1
  refine ⟨⟨⟨some ⟨g', 0, none⟩, 0, cap, (World.cell?_of_block fb).trans cB, hc, fun _ _ => rfl, fun j t ht => ?_⟩, fun j => (World.frozen?_of_block fb).trans (fB j), ⟨by omega, by omega⟩, by omega⟩, ?_⟩
  · rw [Nat.zero_add]; exact (World.cell?_of_block fg).trans (hcl j t ht)
  · have hbs := tk.gr
    refine ⟨(show w7.os = _ from ho.1).trans (hg.os.trans hbs.os), (show w7.tape = _ from ho.2.1).trans (hg.tape.trans hbs.tape), (show w7.output = _ from ho.2.2).trans (hg.output.trans hbs.output), by omega, fun k hk1 hne => ?_⟩
    rw [w8_far W w7 p1 k (by omega), hk k hk1 (fun e => hne (by rw [e])), hg.block k (by simp; omega) (fun e => by have := Option.some.inj e; omega), Below.heap_alloc _ _ _ (by omega)]
    exact hbs.block k hk1

theorem cut_all {W w3 w4 : World} {B g g' cap : Nat} {p p1 p2 : Pt} {r : List Pt} (tk : Tk W B g p r w3) (hB : B < W.heap.size) (own4 : POwn w4 w3.heap.size (.slice (some ⟨g', 0, none⟩) (r.length + 1) cap) (p :: r)) (hg : (w3.alloc (.cells #[] 79)).grownBy w4 (some w3.heap.size)) {f : Nat} (hf : f < 3) {u x : Value} (hu : (ptC p).set f u = ptC p2) (hx : (ptC p).set f x = ptC p1) :
    Ct W B g' f (.slice (some ⟨g', 0, none⟩) (r.length + 1) cap) u x p p1 w4 ∧ (w8 W (((w4.setCell ⟨g', f, none⟩ u).setCell ⟨W.heap.size + 1, f, none⟩ x).setCell ⟨B, 0, none⟩ (.slice (some ⟨g', 0, none⟩) (r.length + 1) cap)) p1).heap[W.heap.size]? = some (.cells #[.int .i64 p1.keep, .string p1.put, .string p1.drop] 79 (0, 0)) ∧
      Rd (w8 W (((w4.setCell ⟨g', f, none⟩ u).setCell ⟨W.heap.size + 1, f, none⟩ x).setCell ⟨B, 0, none⟩ (.slice (some ⟨g', 0, none⟩) (r.length + 1) cap)) p1) B g' (p2 :: r) ∧ W.heap.size ≤ g' ∧ W.grownBy (w8 W (((w4.setCell ⟨g', f, none⟩ u).setCell ⟨W.heap.size + 1, f, none⟩ x).setCell ⟨B, 0, none⟩ (.slice (some ⟨g', 0, none⟩) (r.length + 1) cap)) p1) (some B) := by
  have hs := tk.sz
  have h4 : w4.heap.size ≥ w3.heap.size + 1 := by have := hg.size; simpa using this
  have same : ∀ k, k < w3.heap.size → w4.heap[k]? = w3.heap[k]? := fun k hk => (hg.block k (by simp; omega) (fun e => by have := Option.some.inj e; omega)).trans (Below.heap_alloc _ _ _ hk)
  obtain ⟨gg, cc, ev, h1, h2, hgl, hgu, hcl, hbk⟩ := own4.shape (by simp)
  cases ev
  have hP4 := (same (W.heap.size + 1) (by omega)).trans tk.hP
  have hR4 := (same W.heap.size (by omega)).trans tk.hR
  have hB4 := same B (by omega)
  have ec : encP (p :: r) = ptC p ++ encP r := by simp [encP]
  have n1 : W.heap.size + 1 ≠ g' := by omega
  have n2 : B ≠ g' := by omega
  have n3 : B ≠ W.heap.size + 1 := by omega
  have n4 : W.heap.size ≠ g' := by omega
  have q5 : (w4.setCell ⟨g', f, none⟩ u).heap[W.heap.size + 1]? = some (.cells #[.int .i64 p.keep, .string p.put, .string p.drop] 79 (0, 0)) := (Below.heap_setCell _ _ _ _ n1).trans hP4
  have q6 : ((w4.setCell ⟨g', f, none⟩ u).setCell ⟨W.heap.size + 1, f, none⟩ x).heap[W.heap.size + 1]? = some (.cells #[.int .i64 p1.keep, .string p1.put, .string p1.drop] 79 (0, 0)) := by
    rw [cells_set q5 f x]
    have e : (#[.int .i64 p.keep, .string p.put, .string p.drop] : Array Value).set! f x = (ptC p1).toArray := by
      rw [← hx]
      have : f = 0 ∨ f = 1 ∨ f = 2 := by omega
      rcases this with rfl | rfl | rfl <;> rfl
    rw [e]; rfl
  have r6 : ((w4.setCell ⟨g', f, none⟩ u).setCell ⟨W.heap.size + 1, f, none⟩ x).heap[B]? = w3.heap[B]? := (Below.heap_setCell _ _ _ _ n3).trans ((Below.heap_setCell _ _ _ _ n2).trans hB4)
  have q7 := (Below.heap_setCell ((w4.setCell ⟨g', f, none⟩ u).setCell ⟨W.heap.size + 1, f, none⟩ x) ⟨B, 0, none⟩ (.slice (some ⟨g', 0, none⟩) (r.length + 1) cap) (W.heap.size + 1) (Ne.symm n3)).trans q6
  have s7 : (((w4.setCell ⟨g', f, none⟩ u).setCell ⟨W.heap.size + 1, f, none⟩ x).setCell ⟨B, 0, none⟩ (.slice (some ⟨g', 0, none⟩) (r.length + 1) cap)).heap[W.heap.size]? = some (.cells #[.int .i64 0, .string ⟨#[]⟩, .string ⟨#[]⟩] 79 (0, 0)) :=
    (Below.heap_setCell _ _ _ _ (by show W.heap.size ≠ B; omega)).trans ((Below.heap_setCell _ _ _ _ (by show W.heap.size ≠ W.heap.size + 1; omega)).trans ((Below.heap_setCell _ _ _ _ n4).trans hR4))
  obtain ⟨⟨a0, a1, a2⟩, -⟩ := cells3_of hP4
  obtain ⟨⟨b0, b1, b2⟩, bf⟩ := cells3_of q5
  obtain ⟨⟨d0, d1, d2⟩, -⟩ := cells3_of q7
  obtain ⟨⟨e0, e1, e2⟩, ef⟩ := cells3_of s7
  obtain ⟨o', cap', hb0, -, -, -, -⟩ := tk.rd.cons
  have gg0 : ∀ j t, (ptC p)[j]? = some t → w4.cell? ⟨g', j, none⟩ = some t := fun j t ht => hcl j t (by rw [ec, List.getElem?_append_left (by have := (List.getElem?_eq_some_iff.1 ht).1; exact this)]; exact ht)
  have cB : ((w4.setCell ⟨g', f, none⟩ u).setCell ⟨W.heap.size + 1, f, none⟩ x).cell? ⟨B, 0, none⟩ = some (.slice (some ⟨g, o', none⟩) (r.length + 1) cap') := (World.cell?_of_block r6).trans hb0
  have hst : POwn (w4.setCell ⟨g', f, none⟩ u) w3.heap.size (.slice (some ⟨g', 0, none⟩) (r.length + 1) cap) (p2 :: r) := by
    have := POwn.set (a := []) (b := r) (x := p) (x' := p2) (n := r.length + 1) own4 (by simp) f u hf hu
    rw [show ([] : List Pt).length * 3 + f = f by simp] at this
    exact this
  obtain ⟨g2, c2, ev2, -, -, -, -, hcl2, -⟩ := hst.shape (by simp)
  cases ev2
  have fg : (((w4.setCell ⟨g', f, none⟩ u).setCell ⟨W.heap.size + 1, f, none⟩ x).setCell ⟨B, 0, none⟩ (.slice (some ⟨g', 0, none⟩) (r.length + 1) cap)).heap[g']? = (w4.setCell ⟨g', f, none⟩ u).heap[g']? := (Below.heap_setCell _ _ _ _ (Ne.symm n2)).trans (Below.heap_setCell _ _ _ _ (Ne.symm n1))
  have hcl7 : CLs (((w4.setCell ⟨g', f, none⟩ u).setCell ⟨W.heap.size + 1, f, none⟩ x).setCell ⟨B, 0, none⟩ (.slice (some ⟨g', 0, none⟩) (r.length + 1) cap)) g' (encP (p2 :: r)) := fun j t ht => (World.cell?_of_block fg).trans (hcl2 j t ht)
  have cB7 := World.cell?_setCell_same _ ⟨B, 0, none⟩ (.slice (some ⟨g', 0, none⟩) (r.length + 1) cap) cB
  have fB7 : ∀ j, (((w4.setCell ⟨g', f, none⟩ u).setCell ⟨W.heap.size + 1, f, none⟩ x).setCell ⟨B, 0, none⟩ (.slice (some ⟨g', 0, none⟩) (r.length + 1) cap)).frozen? ⟨B, j, none⟩ = false := fun j => by
    rw [World.frozen?_setCell]; exact (World.frozen?_of_block r6).trans (tk.rd.fz j)
  have k7 : ∀ k, k < W.heap.size → k ≠ B → (((w4.setCell ⟨g', f, none⟩ u).setCell ⟨W.heap.size + 1, f, none⟩ x).setCell ⟨B, 0, none⟩ (.slice (some ⟨g', 0, none⟩) (r.length + 1) cap)).heap[k]? = w4.heap[k]? := fun k h1 h2 => (Below.heap_setCell _ _ _ _ h2).trans ((Below.heap_setCell _ _ _ _ (by show k ≠ W.heap.size + 1; omega)).trans (Below.heap_setCell _ _ _ _ (by show k ≠ g'; omega)))
  have z7 : (((w4.setCell ⟨g', f, none⟩ u).setCell ⟨W.heap.size + 1, f, none⟩ x).setCell ⟨B, 0, none⟩ (.slice (some ⟨g', 0, none⟩) (r.length + 1) cap)).heap.size = w4.heap.size := by simp
  have o7 : (((w4.setCell ⟨g', f, none⟩ u).setCell ⟨W.heap.size + 1, f, none⟩ x).setCell ⟨B, 0, none⟩ (.slice (some ⟨g', 0, none⟩) (r.length + 1) cap)).os = w4.os ∧ (((w4.setCell ⟨g', f, none⟩ u).setCell ⟨W.heap.size + 1, f, none⟩ x).setCell ⟨B, 0, none⟩ (.slice (some ⟨g', 0, none⟩) (r.length + 1) cap)).tape = w4.tape ∧ (((w4.setCell ⟨g', f, none⟩ u).setCell ⟨W.heap.size + 1, f, none⟩ x).setCell ⟨B, 0, none⟩ (.slice (some ⟨g', 0, none⟩) (r.length + 1) cap)).output = w4.output := ⟨rfl, rfl, rfl⟩
  have hct : Ct W B g' f (.slice (some ⟨g', 0, none⟩) (r.length + 1) cap) u x p p1 w4 := ⟨a0, a1, a2, gg0 0 _ rfl, gg0 1 _ rfl, gg0 2 _ rfl, hbk.fz, b0, b1, b2, bf, ⟨_, cB⟩, (World.frozen?_of_block r6).trans (tk.rd.fz 0), d0, d1, d2, e0, e1, e2, ef⟩
  refine ⟨hct, ?_⟩
  clear hct a0 a1 a2 b0 b1 b2 bf d0 d1 d2 e0 e1 e2 ef q7 q6 q5 r6 fg hcl2 hst cB gg0
  generalize ((w4.setCell ⟨g', f, none⟩ u).setCell ⟨W.heap.size + 1, f, none⟩ x).setCell ⟨B, 0, none⟩ (.slice (some ⟨g', 0, none⟩) (r.length + 1) cap) = w7 at *
  obtain ⟨y1, y2⟩ := cut_end p1 tk hB hg z7 hgl hgu ⟨h1, h2⟩ hcl7 cB7 fB7 k7 o7
  exact ⟨by unfold w8; exact row3_put s7 _ _ _, y1, by omega, y2⟩

end Go.Proofs.YtkjioadmebkaoabDoor

namespace Go.Proofs.YtkjioadmebkaoabDoor
open Go.RowKit
open Doc1

set_option maxRecDepth 100000 in
set_option maxHeartbeats 8000000 in
theorem take_keep {W : World} {B g : Nat} {p : Pt} {r : List Pt} (h : Rd W B g (p :: r)) (hk : 0 ≤ p.keep ∧ p.keep ≤ 300) (hp : p.put.size ≤ 300) (hd : p.drop.size ≤ 300) (hrl : r.length ≤ 1000) (n : Nat) (hn : 0 < n) (hnp : (n : Int) ≠ psz p) (hnk : (n : Int) < p.keep) :
    Calls Tryd.prog 92 #[.pointer (some ⟨B, 0, none⟩), .int .i64 (n : Int)] W fun e w' => e = .returned (ptV ⟨n, p.put, p.drop⟩) ∧ ∃ g', Rd w' B g' (⟨p.keep - n, p.put, p.drop⟩ :: r) ∧ W.heap.size ≤ g' ∧ W.grownBy w' (some B) := by
  have SZ := hide (tk_size h hk hp hd)
  obtain ⟨o, cap, e1, e2, ⟨c0, c1, c2⟩, -, -⟩ := h.cons
  obtain ⟨u0, hu0, hz0, hz1, hz2⟩ := info_parts Tryd.infoPart
  have hlt := h.lt
  have hne : ((n : Int) == psz p) = false := by rw [beq_eq_false_iff_ne]; exact hnp
  have k0 : 0 < p.keep := by omega
  clear h hnp
  unfold ptV
  simp only
  generalize psz p = m at *
  go_enter Tryd.func92, Tryd.ntmps92
  go_wp2_with fail
  refine SZ.out.mono ?_
  rintro e w3 ⟨rfl, tk⟩
  obtain ⟨o', cap', b0, hcap', -, hall, -⟩ := tk.rd.cons
  have hs3 := tk.sz
  have b0' : (w3.alloc (.cells #[] 79)).cell? ⟨B, 0, none⟩ = some (.slice (some ⟨g, o', none⟩) (r.length + 1) cap') := (World.cell?_of_block (Below.heap_alloc _ _ _ tk.rd.lt.1)).trans b0
  have hall' : Hid (∀ j t, (encP (p :: r))[j]? = some t → (w3.alloc (.cells #[] 79)).cell? ((⟨g, o', none⟩ : Addr).add j) = some t) := hide (fun j t ht => by
    rw [show (⟨g, o', none⟩ : Addr).add j = ⟨g, o' + j, none⟩ by unfold Addr.add; split <;> simp_all]
    exact (World.cell?_of_block (Below.heap_alloc _ _ _ tk.rd.lt.2)).trans (hall j t ht))
  have hel := encP_len (p :: r)
  have hone : Hid (∀ t ∈ encP (p :: r), t.oneCell' = true) := hide (fun t ht => encP_one ht)
  have TK := hide tk
  clear e1 c0 c1 c2 SZ e2 hall tk b0
  go_wp2_with (at_builtin; go_loud (refine wpList_append_own _ rfl _ _ 27 rfl w3.heap.size 79 u0 (.agg #[.int .i64 0, .string ⟨#[]⟩, .string ⟨#[]⟩]) 3 40 Tryd.underlying27 hu0 hz0 hz1 hz2 rfl (by decide) _ _ _ rfl (own_empty w3) ⟨g, o', none⟩ (r.length + 1) cap' (encP (p :: r)) rfl (by rw [hel]; rfl) hall'.out hone.out (by unfold maxLen; omega) (by omega) (by simp) ?_); intro v4 w4 hown4 hgrow4 _; have own4 : POwn w4 w3.heap.size v4 (p :: r) := (by have := hown4; rw [Nat.zero_add, List.nil_append] at this; exact this); obtain ⟨g', cap4, rfl, -, -, -, -, -, -⟩ := own4.shape (by simp); obtain ⟨CT, X1, X2, X3, X4⟩ := cut_all (p1 := ⟨n, p.put, p.drop⟩) (p2 := ⟨p.keep - n, p.put, p.drop⟩) TK.out hlt.1 own4 hgrow4 (f := 0) (by omega) (u := .int .i64 (p.keep - n)) (x := .int .i64 n) rfl rfl; have HX1 := hide X1; have HX2 := hide X2; have HX4 := hide X4; clear X1 X2 X4 own4 hown4 hgrow4; obtain ⟨a0, a1, a2, g0, g1, g2, gf, b0, b1, b2, bf, ⟨s0, cc0⟩, cf, d0, d1, d2, e0, e1, e2, ef⟩ := CT; unfold w8 at HX1 HX2 HX4; simp only at HX1 HX2 HX4 d0 d1 d2)
  (try simp only [Exit.inBlock, Exit.then])
  refine bodyPost_ret (results_cell_row rfl _ _ W.heap.size 79 _ (0, 0) _ rfl HX1.out Tryd.underlying79 rfl Tryd.sizePart) rfl ?_
  exact ⟨rfl, _, HX2.out, X3, HX4.out⟩

set_option maxRecDepth 100000 in
set_option maxHeartbeats 8000000 in
theorem take_put {W : World} {B g : Nat} {p : Pt} {r : List Pt} (h : Rd W B g (p :: r)) (hk : 0 ≤ p.keep ∧ p.keep ≤ 300) (hp : p.put.size ≤ 300) (hd : p.drop.size ≤ 300) (hrl : r.length ≤ 1000) (n : Nat) (hnp : (n : Int) ≠ psz p) (hk0 : p.keep ≤ 0) (hpe : p.put.data.toList ≠ []) (hnk : n ≤ p.put.size) :
    Calls Tryd.prog 92 #[.pointer (some ⟨B, 0, none⟩), .int .i64 (n : Int)] W fun e w' => e = .returned (ptV ⟨p.keep, p.put.extract 0 n, p.drop⟩) ∧ ∃ g', Rd w' B g' (⟨p.keep, p.put.extract n p.put.size, p.drop⟩ :: r) ∧ W.heap.size ≤ g' ∧ W.grownBy w' (some B) := by
  have SZ := hide (tk_size h hk hp hd)
  obtain ⟨o, cap, e1, e2, ⟨c0, c1, c2⟩, -, -⟩ := h.cons
  obtain ⟨u0, hu0, hz0, hz1, hz2⟩ := info_parts Tryd.infoPart
  have hlt := h.lt
  have hne : ((n : Int) == psz p) = false := by rw [beq_eq_false_iff_ne]; exact hnp
  have hk1 : decide (0 < p.keep) = false := decide_eq_false (by omega)
  have e9 := emp_b p.put
  rw [decide_eq_false hpe] at e9
  clear h hnp
  unfold ptV
  simp only
  generalize psz p = m at *
  go_enter Tryd.func92, Tryd.ntmps92
  go_wp2_with fail
  refine SZ.out.mono ?_
  rintro e w3 ⟨rfl, tk⟩
  obtain ⟨o', cap', b0, hcap', -, hall, -⟩ := tk.rd.cons
  have hs3 := tk.sz
  have b0' : (w3.alloc (.cells #[] 79)).cell? ⟨B, 0, none⟩ = some (.slice (some ⟨g, o', none⟩) (r.length + 1) cap') := (World.cell?_of_block (Below.heap_alloc _ _ _ tk.rd.lt.1)).trans b0
  have hall' : Hid (∀ j t, (encP (p :: r))[j]? = some t → (w3.alloc (.cells #[] 79)).cell? ((⟨g, o', none⟩ : Addr).add j) = some t) := hide (fun j t ht => by
    rw [show (⟨g, o', none⟩ : Addr).add j = ⟨g, o' + j, none⟩ by unfold Addr.add; split <;> simp_all]
    exact (World.cell?_of_block (Below.heap_alloc _ _ _ tk.rd.lt.2)).trans (hall j t ht))
  have hel := encP_len (p :: r)
  have hone : Hid (∀ t ∈ encP (p :: r), t.oneCell' = true) := hide (fun t ht => encP_one ht)
  have TK := hide tk
  clear e1 c0 c1 c2 SZ e2 hall tk b0
  go_wp2_with (at_builtin; go_loud (refine wpList_append_own _ rfl _ _ 27 rfl w3.heap.size 79 u0 (.agg #[.int .i64 0, .string ⟨#[]⟩, .string ⟨#[]⟩]) 3 40 Tryd.underlying27 hu0 hz0 hz1 hz2 rfl (by decide) _ _ _ rfl (own_empty w3) ⟨g, o', none⟩ (r.length + 1) cap' (encP (p :: r)) rfl (by rw [hel]; rfl) hall'.out hone.out (by unfold maxLen; omega) (by omega) (by simp) ?_); intro v4 w4 hown4 hgrow4 _; have own4 : POwn w4 w3.heap.size v4 (p :: r) := (by have := hown4; rw [Nat.zero_add, List.nil_append] at this; exact this); obtain ⟨g', cap4, rfl, -, -, -, -, -, -⟩ := own4.shape (by simp); obtain ⟨CT, X1, X2, X3, X4⟩ := cut_all (p1 := ⟨p.keep, p.put.extract 0 n, p.drop⟩) (p2 := ⟨p.keep, p.put.extract n p.put.size, p.drop⟩) TK.out hlt.1 own4 hgrow4 (f := 1) (by omega) (u := .string (p.put.extract n p.put.size)) (x := .string (p.put.extract 0 n)) rfl rfl; have HX1 := hide X1; have HX2 := hide X2; have HX4 := hide X4; clear X1 X2 X4 own4 hown4 hgrow4; obtain ⟨a0, a1, a2, g0, g1, g2, gf, b0, b1, b2, bf, ⟨s0, cc0⟩, cf, d0, d1, d2, e0, e1, e2, ef⟩ := CT; unfold w8 at HX1 HX2 HX4; simp only at HX1 HX2 HX4 d0 d1 d2)
  (try simp only [Exit.inBlock, Exit.then])
  refine bodyPost_ret (results_cell_row rfl _ _ W.heap.size 79 _ (0, 0) _ rfl HX1.out Tryd.underlying79 rfl Tryd.sizePart) rfl ?_
  exact ⟨rfl, _, HX2.out, X3, HX4.out⟩

set_option maxRecDepth 100000 in
set_option maxHeartbeats 8000000 in
theorem take_drop {W : World} {B g : Nat} {p : Pt} {r : List Pt} (h : Rd W B g (p :: r)) (hk : 0 ≤ p.keep ∧ p.keep ≤ 300) (hp : p.put.size ≤ 300) (hd : p.drop.size ≤ 300) (hrl : r.length ≤ 1000) (n : Nat) (hnp : (n : Int) ≠ psz p) (hk0 : p.keep ≤ 0) (hpe : p.put.data.toList = []) (hnk : n ≤ p.drop.size) :
    Calls Tryd.prog 92 #[.pointer (some ⟨B, 0, none⟩), .int .i64 (n : Int)] W fun e w' => e = .returned (ptV ⟨p.keep, p.put, p.drop.extract 0 n⟩) ∧ ∃ g', Rd w' B g' (⟨p.keep, p.put, p.drop.extract n p.drop.size⟩ :: r) ∧ W.heap.size ≤ g' ∧ W.grownBy w' (some B) := by
  have SZ := hide (tk_size h hk hp hd)
  obtain ⟨o, cap, e1, e2, ⟨c0, c1, c2⟩, -, -⟩ := h.cons
  obtain ⟨u0, hu0, hz0, hz1, hz2⟩ := info_parts Tryd.infoPart
  have hlt := h.lt
  have hne : ((n : Int) == psz p) = false := by rw [beq_eq_false_iff_ne]; exact hnp
  have hk1 : decide (0 < p.keep) = false := decide_eq_false (by omega)
  have e9 := emp_b p.put
  rw [decide_eq_true hpe] at e9
  clear h hnp
  unfold ptV
  simp only
  generalize psz p = m at *
  go_enter Tryd.func92, Tryd.ntmps92
  go_wp2_with fail
  refine SZ.out.mono ?_
  rintro e w3 ⟨rfl, tk⟩
  obtain ⟨o', cap', b0, hcap', -, hall, -⟩ := tk.rd.cons
  have hs3 := tk.sz
  have b0' : (w3.alloc (.cells #[] 79)).cell? ⟨B, 0, none⟩ = some (.slice (some ⟨g, o', none⟩) (r.length + 1) cap') := (World.cell?_of_block (Below.heap_alloc _ _ _ tk.rd.lt.1)).trans b0
  have hall' : Hid (∀ j t, (encP (p :: r))[j]? = some t → (w3.alloc (.cells #[] 79)).cell? ((⟨g, o', none⟩ : Addr).add j) = some t) := hide (fun j t ht => by
    rw [show (⟨g, o', none⟩ : Addr).add j = ⟨g, o' + j, none⟩ by unfold Addr.add; split <;> simp_all]
    exact (World.cell?_of_block (Below.heap_alloc _ _ _ tk.rd.lt.2)).trans (hall j t ht))
  have hel := encP_len (p :: r)
  have hone : Hid (∀ t ∈ encP (p :: r), t.oneCell' = true) := hide (fun t ht => encP_one ht)
  have TK := hide tk
  clear e1 c0 c1 c2 SZ e2 hall tk b0
  go_wp2_with (at_builtin; go_loud (refine wpList_append_own _ rfl _ _ 27 rfl w3.heap.size 79 u0 (.agg #[.int .i64 0, .string ⟨#[]⟩, .string ⟨#[]⟩]) 3 40 Tryd.underlying27 hu0 hz0 hz1 hz2 rfl (by decide) _ _ _ rfl (own_empty w3) ⟨g, o', none⟩ (r.length + 1) cap' (encP (p :: r)) rfl (by rw [hel]; rfl) hall'.out hone.out (by unfold maxLen; omega) (by omega) (by simp) ?_); intro v4 w4 hown4 hgrow4 _; have own4 : POwn w4 w3.heap.size v4 (p :: r) := (by have := hown4; rw [Nat.zero_add, List.nil_append] at this; exact this); obtain ⟨g', cap4, rfl, -, -, -, -, -, -⟩ := own4.shape (by simp); obtain ⟨CT, X1, X2, X3, X4⟩ := cut_all (p1 := ⟨p.keep, p.put, p.drop.extract 0 n⟩) (p2 := ⟨p.keep, p.put, p.drop.extract n p.drop.size⟩) TK.out hlt.1 own4 hgrow4 (f := 2) (by omega) (u := .string (p.drop.extract n p.drop.size)) (x := .string (p.drop.extract 0 n)) rfl rfl; have HX1 := hide X1; have HX2 := hide X2; have HX4 := hide X4; clear X1 X2 X4 own4 hown4 hgrow4; obtain ⟨a0, a1, a2, g0, g1, g2, gf, b0, b1, b2, bf, ⟨s0, cc0⟩, cf, d0, d1, d2, e0, e1, e2, ef⟩ := CT; unfold w8 at HX1 HX2 HX4; simp only at HX1 HX2 HX4 d0 d1 d2)
  (try simp only [Exit.inBlock, Exit.then])
  refine bodyPost_ret (results_cell_row rfl _ _ W.heap.size 79 _ (0, 0) _ rfl HX1.out Tryd.underlying79 rfl Tryd.sizePart) rfl ?_
  exact ⟨rfl, _, HX2.out, X3, HX4.out⟩

end Go.Proofs.YtkjioadmebkaoabDoor

namespace Go.Proofs.YtkjioadmebkaoabDoor
open Go.RowKit
open Doc1

def cutA (p : Pt) (n : Nat) : Pt := if 0 < p.keep then kp n else if p.put.data.toList ≠ [] then pp (p.put.data.toList.take n) else dp (p.drop.data.toList.take n)
def cutB (p : Pt) (n : Nat) : Pt := if 0 < p.keep then kp (p.keep.toNat - n) else if p.put.data.toList ≠ [] then pp (p.put.data.toList.drop n) else dp (p.drop.data.toList.drop n)
def restL (p : Pt) (n : Nat) (r : List Pt) : List Pt := if (n : Int) = psz p then r else cutB p n :: r
theorem psz_kp (m : Nat) : psz (kp m) = m := by simp [psz, kp, ba_sz]
theorem psz_pp (b : List UInt8) : psz (pp b) = b.length := by simp [psz, pp, ba_sz]
theorem psz_dp (b : List UInt8) : psz (dp b) = b.length := by simp [psz, dp, ba_sz]
theorem cutA_kp {m : Nat} (hm : 0 < m) (n : Nat) : cutA (kp m) n = kp n ∧ cutB (kp m) n = kp (m - n) := by
  have : 0 < (kp m).keep := kp_pos hm
  unfold cutA cutB
  rw [if_pos this, if_pos this]
  exact ⟨rfl, by simp [kp]⟩
theorem cutA_pp {b : List UInt8} (hb : b ≠ []) (n : Nat) : cutA (pp b) n = pp (b.take n) ∧ cutB (pp b) n = pp (b.drop n) := by
  unfold cutA cutB
  have hk : ¬ 0 < (pp b).keep := by show ¬ (0 : Int) < 0; omega
  have hp : (pp b).put.data.toList ≠ [] := by rw [ppP]; exact hb
  rw [if_neg hk, if_neg hk, if_pos hp, if_pos hp, ppP]
  exact ⟨rfl, rfl⟩
theorem cutA_dp (b : List UInt8) (n : Nat) : cutA (dp b) n = dp (b.take n) ∧ cutB (dp b) n = dp (b.drop n) := by
  unfold cutA cutB
  have hk : ¬ 0 < (dp b).keep := by show ¬ (0 : Int) < 0; omega
  have hp : ¬ (dp b).put.data.toList ≠ [] := by rw [dpP]; simp
  rw [if_neg hk, if_neg hk, if_neg hp, if_neg hp, dpD]
  exact ⟨rfl, rfl⟩
theorem ok_take {b : List UInt8} (h : allOk b = true) (n : Nat) : allOk (b.take n) = true ∧ allOk (b.drop n) = true := by
  unfold allOk at *
  rw [List.all_eq_true] at h
  constructor
  · rw [List.all_eq_true]; exact fun x hx => h x (List.mem_of_mem_take hx)
  · rw [List.all_eq_true]; exact fun x hx => h x (List.mem_of_mem_drop hx)
/-- Good parts, none longer than 300. -/
def gqs (p : Pt) : Prop := gq p ∧ psz p ≤ 300
theorem gqs_pk {p : Pt} (h : gqs p) : pk p ≠ 0 := by
  obtain ⟨hq, hs⟩ := h
  have h1 : gp p = true := by
    rcases hq with ⟨m, hm, rfl⟩ | ⟨b, hb, _, rfl⟩ | ⟨b, hb, _, rfl⟩
    · exact gq_gp (.inl ⟨m, hm, rfl⟩) (by simp [tk1, kp, ba_sz]; simp [psz_kp] at hs; omega) (by simp [mk1, kp, ba_sz]; simp [psz_kp] at hs; omega)
    · rw [psz_pp] at hs
      refine gq_gp (.inr (.inl ⟨b, hb, by assumption, rfl⟩)) (by simp [tk1, pp, ba_sz]) (by simp [mk1, pp, ba_sz]; omega)
    · rw [psz_dp] at hs
      refine gq_gp (.inr (.inr ⟨b, hb, by assumption, rfl⟩)) (by simp [tk1, dp, ba_sz]; omega) (by simp [mk1, dp, ba_sz])
  rw [gp_pk] at h1
  exact of_decide_eq_true h1
theorem pk_gqs {p : Pt} (hq : gq p) (h : pk p ≠ 0) : gqs p := by
  refine ⟨hq, ?_⟩
  have hb := pk_bd h
  rcases hq with ⟨m, hm, rfl⟩ | ⟨b, hb', _, rfl⟩ | ⟨b, hb', _, rfl⟩
  · rw [psz_kp]; have := hb.1.2; simp [tk1, kp, ba_sz] at this; omega
  · rw [psz_pp]; have := hb.2.2; simp [mk1, pp, ba_sz] at this; omega
  · rw [psz_dp]; have := hb.1.2; simp [tk1, dp, ba_sz] at this; omega
/-- What a cut leaves. -/
theorem cut_math {p : Pt} (h : gqs p) {n : Nat} (h0 : 0 < n) (hle : (n : Int) ≤ psz p) (r : List Pt) :
    stp p ++ stL r = stp (cutA p n) ++ stL (restL p n r) ∧ gqs (cutA p n) ∧ psz (cutA p n) = n ∧ ((n : Int) = psz p → cutA p n = p) ∧ ((n : Int) ≠ psz p → gqs (cutB p n)) := by
  obtain ⟨hq, hs⟩ := h
  rcases hq with ⟨m, hm, rfl⟩ | ⟨b, hb, hok, rfl⟩ | ⟨b, hb, hok, rfl⟩
  · rw [psz_kp] at hs hle
    obtain ⟨e1, e2⟩ := cutA_kp hm n
    unfold restL
    rw [e1, e2, psz_kp]
    refine ⟨?_, ⟨.inl ⟨n, h0, rfl⟩, by rw [psz_kp]; omega⟩, psz_kp n, fun e => by rw [show n = m by omega], fun hne => ⟨.inl ⟨m - n, by omega, rfl⟩, by rw [psz_kp]; omega⟩⟩
    by_cases e : (n : Int) = m
    · rw [if_pos e, show n = m by omega]
    · rw [if_neg e, stL_cons, stp_kp, stp_kp, stp_kp, ← List.append_assoc]
      unfold sK
      rw [List.replicate_append_replicate, show n + (m - n) = m by omega]
  · rw [psz_pp] at hs hle
    obtain ⟨e1, e2⟩ := cutA_pp hb n
    obtain ⟨o1, o2⟩ := ok_take hok n
    have l1 : (b.take n).length = n := by rw [List.length_take]; omega
    unfold restL
    rw [e1, e2, psz_pp, psz_pp, l1]
    refine ⟨?_, ⟨.inr (.inl ⟨b.take n, fun c => by rw [c] at l1; simp at l1; omega, o1, rfl⟩), by rw [psz_pp, l1]; omega⟩, rfl, fun e => by rw [List.take_of_length_le (by omega)], fun hne => ⟨.inr (.inl ⟨b.drop n, fun c => by have := List.drop_eq_nil_iff.1 c; omega, o2, rfl⟩), by rw [psz_pp, List.length_drop]; omega⟩⟩
    by_cases e : (n : Int) = b.length
    · rw [if_pos e, List.take_of_length_le (by omega)]
    · rw [if_neg e, stL_cons, stp_pp, stp_pp, stp_pp, ← List.append_assoc]
      unfold sP
      rw [← List.map_append, List.take_append_drop]
  · rw [psz_dp] at hs hle
    obtain ⟨e1, e2⟩ := cutA_dp b n
    obtain ⟨o1, o2⟩ := ok_take hok n
    have l1 : (b.take n).length = n := by rw [List.length_take]; omega
    unfold restL
    rw [e1, e2, psz_dp, psz_dp, l1]
    refine ⟨?_, ⟨.inr (.inr ⟨b.take n, fun c => by rw [c] at l1; simp at l1; omega, o1, rfl⟩), by rw [psz_dp, l1]; omega⟩, rfl, fun e => by rw [List.take_of_length_le (by omega)], fun hne => ⟨.inr (.inr ⟨b.drop n, fun c => by have := List.drop_eq_nil_iff.1 c; omega, o2, rfl⟩), by rw [psz_dp, List.length_drop]; omega⟩⟩
    by_cases e : (n : Int) = b.length
    · rw [if_pos e, List.take_of_length_le (by omega)]
    · rw [if_neg e, stL_cons, stp_dp, stp_dp, stp_dp, ← List.append_assoc]
      unfold sD
      rw [← List.map_append, List.take_append_drop]
theorem ext0 (b : List UInt8) (n : Nat) : (ba b).extract 0 n = ba (b.take n) := ba_eq (by simp [ba])
theorem ext1 (b : List UInt8) (n : Nat) : (ba b).extract n (ba b).size = ba (b.drop n) := ba_eq (by
  rw [ba_sz]
  simp [ba, List.take_of_length_le])
theorem gqs_bd {p : Pt} (h : gqs p) : (0 ≤ p.keep ∧ p.keep ≤ 300) ∧ p.put.size ≤ 300 ∧ p.drop.size ≤ 300 := by
  have := pk_Bd (gqs_pk h)
  have h2 := pk_bd (gqs_pk h)
  have h3 := keep_nn (gqs_pk h)
  exact ⟨⟨h3, this.1⟩, this.2.1, this.2.2⟩

/-- The model's take of any good part. -/
theorem take_gq {W : World} {B g : Nat} {p : Pt} {r : List Pt} (h : Rd W B g (p :: r)) (hq : gqs p) (hrl : r.length ≤ 1000) {n : Nat} (h0 : 0 < n) (hle : (n : Int) ≤ psz p) :
    Calls Tryd.prog 92 #[.pointer (some ⟨B, 0, none⟩), .int .i64 (n : Int)] W fun e w' => e = .returned (ptV (cutA p n)) ∧ ∃ g', Rd w' B g' (restL p n r) ∧ (g' = g ∨ W.heap.size ≤ g') ∧ W.grownBy w' (some B) := by
  obtain ⟨b1, b2, b3⟩ := gqs_bd hq
  have hm := cut_math hq h0 hle r
  by_cases e : (n : Int) = psz p
  · rw [hm.2.2.2.1 e, show restL p n r = r by unfold restL; rw [if_pos e], e]
    exact (take_whole h b1 b2 b3).mono (fun _ _ ⟨x1, x2, x3⟩ => ⟨x1, g, x2, .inl rfl, x3⟩)
  · have er : restL p n r = cutB p n :: r := by unfold restL; rw [if_neg e]
    rw [er]
    obtain ⟨hq', hs⟩ := hq
    rcases hq' with ⟨m, hm', rfl⟩ | ⟨b, hb, hok, rfl⟩ | ⟨b, hb, hok, rfl⟩
    · obtain ⟨e1, e2⟩ := cutA_kp hm' n
      rw [psz_kp] at hle e
      rw [e1, e2]
      refine (take_keep h b1 b2 b3 hrl n h0 (by rw [psz_kp]; exact e) (by show (n : Int) < (m : Int); omega)).mono (fun _ _ ⟨x1, g', x2, x3, x4⟩ => ⟨x1, g', ?_, .inr x3, x4⟩)
      have e5 : (⟨(kp m).keep - (n : Int), (kp m).put, (kp m).drop⟩ : Pt) = kp (m - n) := by
        unfold kp
        simp only [Pt.mk.injEq, and_true]
        omega
      rw [e5] at x2
      exact x2
    · obtain ⟨e1, e2⟩ := cutA_pp hb n
      rw [psz_pp] at hle e
      rw [e1, e2]
      refine (take_put h b1 b2 b3 hrl n (by rw [psz_pp]; exact e) (by simp [pp]) (by rw [ppP]; exact hb) (by show n ≤ (ba b).size; rw [ba_sz]; omega)).mono (fun _ _ ⟨x1, g', x2, x3, x4⟩ => ⟨?_, g', ?_, .inr x3, x4⟩)
      · rw [x1]; simp only [pp, ext0]
      · simp only [pp, ext1] at x2; exact x2
    · obtain ⟨e1, e2⟩ := cutA_dp b n
      rw [psz_dp] at hle e
      rw [e1, e2]
      refine (take_drop h b1 b2 b3 hrl n (by rw [psz_dp]; exact e) (by simp [dp]) (by rw [dpP]) (by show n ≤ (ba b).size; rw [ba_sz]; omega)).mono (fun _ _ ⟨x1, g', x2, x3, x4⟩ => ⟨?_, g', ?_, .inr x3, x4⟩)
      · rw [x1]; simp only [dp, ext0]
      · simp only [dp, ext1] at x2; exact x2
end Go.Proofs.YtkjioadmebkaoabDoor

namespace Go.Proofs.YtkjioadmebkaoabDoor
open Go.RowKit
open Doc1

theorem done_nil {W : World} {B g : Nat} (h : Rd W B g []) : Calls Tryd.prog 91 #[.pointer (some ⟨B, 0, none⟩)] W fun e w' => e = .returned (.bool true) ∧ w' = W := done_any h
theorem done_cons {W : World} {B g : Nat} {p : Pt} {r : List Pt} (h : Rd W B g (p :: r)) : Calls Tryd.prog 91 #[.pointer (some ⟨B, 0, none⟩)] W fun e w' => e = .returned (.bool false) ∧ w' = W := by
  have := done_any h
  rw [decide_eq_false (by simp)] at this
  exact this
/-- Between two rounds: both readers, and what is told. -/
structure CS (w : World) (gx gy : Nat) (lx ly P : List Pt) (v : Value) (wr : World) : Prop where
  rx : Rd wr w.heap.size gx lx
  ry : Rd wr (w.heap.size + 1) gy ly
  ow : POwn wr (w.heap.size + 2) v (normL P)
  nx : v.ownBlock ≠ some gx ∧ v.ownBlock ≠ some gy
  gl : gx ≠ w.heap.size + 1 ∧ gy ≠ w.heap.size
  be : Below w.heap.size w wr
theorem CS.up {w : World} {gx gy : Nat} {lx ly P : List Pt} {v : Value} {wr w' : World} (h : CS w gx gy lx ly P v wr) (hb : Below wr.heap.size wr w') : CS w gx gy lx ly P v w' :=
  ⟨h.rx.up hb, h.ry.up hb, own_below h.ow hb, h.nx, h.gl, h.be.trans (hb.mono h.be.size)⟩
theorem CS.drewN {w : World} {gx gy : Nat} {lx ly P : List Pt} {v : Value} {wr : World} (h : CS w gx gy lx ly P v wr) (n : Nat) : CS w gx gy lx ly P v (wr.drewN n) := h.up ⟨rfl, rfl, rfl, Nat.le_refl _, fun _ _ => rfl⟩
theorem CS.takeX {w : World} {gx gy g' : Nat} {lx lx' ly P : List Pt} {v : Value} {wr w' : World} (h : CS w gx gy lx ly P v wr) (hr : Rd w' w.heap.size g' lx') (hg' : g' = gx ∨ wr.heap.size ≤ g') (hg : wr.grownBy w' (some w.heap.size)) : CS w g' gy lx' ly P v w' := by
  have hl := h.rx.lt
  have hl2 := h.ry.lt
  refine ⟨hr, h.ry.grown hg (fun e => by have := Option.some.inj e; omega) (fun e => h.gl.2 (Option.some.inj e).symm), own_grown h.ow hg (fun b hb e => by have := (h.ow.lt b hb).1; have := Option.some.inj e; omega), ⟨fun e => ?_, h.nx.2⟩, ⟨?_, h.gl.2⟩, h.be.trans ⟨hg.os, hg.tape, hg.output, hg.size, fun k hk => hg.block k (by have := h.be.size; omega) (fun e => by have := Option.some.inj e; omega)⟩⟩
  · rcases hg' with rfl | c
    · exact h.nx.1 e
    · have := (h.ow.lt g' e).2; omega
  · rcases hg' with rfl | c
    · exact h.gl.1
    · omega
theorem CS.takeY {w : World} {gx gy g' : Nat} {lx ly ly' P : List Pt} {v : Value} {wr w' : World} (h : CS w gx gy lx ly P v wr) (hr : Rd w' (w.heap.size + 1) g' ly') (hg' : g' = gy ∨ wr.heap.size ≤ g') (hg : wr.grownBy w' (some (w.heap.size + 1))) : CS w gx g' lx ly' P v w' := by
  have hl := h.rx.lt
  have hl2 := h.ry.lt
  refine ⟨h.rx.grown hg (fun e => by have := Option.some.inj e; omega) (fun e => h.gl.1 (Option.some.inj e).symm), hr, own_grown h.ow hg (fun b hb e => by have := (h.ow.lt b hb).1; have := Option.some.inj e; omega), ⟨h.nx.1, fun e => ?_⟩, ⟨h.gl.1, ?_⟩, h.be.trans ⟨hg.os, hg.tape, hg.output, hg.size, fun k hk => hg.block k (by have := h.be.size; omega) (fun e => by have := Option.some.inj e; omega)⟩⟩
  · rcases hg' with rfl | c
    · exact h.nx.2 e
    · have := (h.ow.lt g' e).2; omega
  · rcases hg' with rfl | c
    · exact h.gl.2
    · omega
theorem CS.add {w : World} {gx gy : Nat} {lx ly P : List Pt} {v v' : Value} {wr w' : World} {p : Pt} (h : CS w gx gy lx ly P v wr) (ow : POwn w' (w.heap.size + 2) v' (addP (normL P) p)) (fr : Fr (w.heap.size + 2) v.ownBlock wr w') (loc : v'.ownBlock = v.ownBlock ∨ ∀ y, v'.ownBlock = some y → wr.heap.size ≤ y) : CS w gx gy lx ly (P ++ [p]) v' w' := by
  have nB : ∀ k, k < w.heap.size + 2 → v.ownBlock ≠ some k := fun k hk e => by have := (h.ow.lt k e).1; omega
  refine ⟨h.rx.grown fr.g (nB _ (by omega)) h.nx.1, h.ry.grown fr.g (nB _ (by omega)) h.nx.2, ?_, ⟨fun e => ?_, fun e => ?_⟩, h.gl, h.be.trans (fr.b.mono (by omega))⟩
  · have : normL (P ++ [p]) = addP (normL P) p := by unfold normL; rw [List.foldl_append]; rfl
    rw [this]; exact ow
  · rcases loc with c | c
    · exact h.nx.1 (c.symm.trans e)
    · have := c gx e; have := h.rx.lt; omega
  · rcases loc with c | c
    · exact h.nx.2 (c.symm.trans e)
    · have := c gy e; have := h.ry.lt; omega
/-- How many parts a reader has left. -/
def rdLen (W : World) (B : Nat) : Nat := match W.cell? ⟨B, 0, none⟩ with
  | some (.slice _ n _) => n
  | _ => 0
theorem Rd.len {W : World} {B g : Nat} {l : List Pt} (h : Rd W B g l) : rdLen W B = l.length := by
  obtain ⟨a, o, cap, e1, -, -, -⟩ := h.ex
  unfold rdLen
  rw [e1]
/-- What is known of what is told and of what is left. -/
structure CE (X Y : List St) (lx ly P : List Pt) (N : Nat) : Prop where
  eq : cmpS X Y = (cmpS (stL lx) (stL ly)).map (stL P ++ ·)
  gx : ∀ p ∈ lx, gqs p
  gy : ∀ p ∈ ly, gqs p
  gP : ∀ p ∈ P, gqs p
  sz : P.length + lx.length + ly.length ≤ N
theorem mapP (o : Option (List St)) (P : List Pt) (p : Pt) : (o.map (stp p ++ ·)).map (stL P ++ ·) = o.map (stL (P ++ [p]) ++ ·) := by
  rw [stL_app, stL_one]
  cases o <;> simp
theorem CE.told {X Y : List St} {lx ly lx' ly' P : List Pt} {N : Nat} {p : Pt} (h : CE X Y lx ly P N) (e : cmpS (stL lx) (stL ly) = (cmpS (stL lx') (stL ly')).map (stp p ++ ·)) (hx : ∀ q ∈ lx', gqs q) (hy : ∀ q ∈ ly', gqs q) (hp : gqs p) (hl : lx'.length + ly'.length + 1 ≤ lx.length + ly.length) : CE X Y lx' ly' (P ++ [p]) N :=
  ⟨by rw [h.eq, e, mapP], hx, hy, fun q hq => (List.mem_append.1 hq).elim (h.gP q) (fun c => by rw [List.mem_singleton] at c; rw [c]; exact hp), by have := h.sz; simp; omega⟩
theorem CE.skip {X Y : List St} {lx ly lx' ly' P : List Pt} {N : Nat} (h : CE X Y lx ly P N) (e : cmpS (stL lx) (stL ly) = cmpS (stL lx') (stL ly')) (hx : ∀ q ∈ lx', gqs q) (hy : ∀ q ∈ ly', gqs q) (hl : lx'.length + ly'.length ≤ lx.length + ly.length) : CE X Y lx' ly' P N :=
  ⟨by rw [h.eq, e], hx, hy, h.gP, by have := h.sz; omega⟩
theorem rest_g {p : Pt} {r : List Pt} {n : Nat} (h : ∀ q ∈ p :: r, gqs q) (h0 : 0 < n) (hle : (n : Int) ≤ psz p) : ∀ q ∈ restL p n r, gqs q := by
  unfold restL
  split
  · exact fun q hq => h q (by simp [hq])
  · rename_i hne
    intro q hq
    rcases List.mem_cons.1 hq with rfl | c
    · exact (cut_math (h p (by simp)) h0 hle r).2.2.2.2 hne
    · exact h q (by simp [c])
theorem rest_len (p : Pt) (r : List Pt) (n : Nat) : (restL p n r).length = if (n : Int) = psz p then r.length else r.length + 1 := by
  unfold restL; split <;> simp
theorem gqs_cases {p : Pt} (h : gqs p) : (∃ m, 0 < m ∧ p = kp m) ∨ (∃ b, b ≠ [] ∧ p = pp b) ∨ (∃ b, b ≠ [] ∧ p = dp b) := by
  rcases h.1 with ⟨m, hm, e⟩ | ⟨b, hb, _, e⟩ | ⟨b, hb, _, e⟩
  · exact .inl ⟨m, hm, e⟩
  · exact .inr (.inl ⟨b, hb, e⟩)
  · exact .inr (.inr ⟨b, hb, e⟩)
theorem noD_head {p : Pt} {r : List Pt} (h : gqs p) (hd : p.drop.data.toList = []) : noD (stL (p :: r)) := by
  intro x s hs
  rw [stL_cons] at hs
  rcases gqs_cases h with ⟨m, hm, rfl⟩ | ⟨b, hb, rfl⟩ | ⟨b, hb, rfl⟩
  · rw [stp_kp] at hs
    obtain ⟨k, rfl⟩ : ∃ k, m = k + 1 := ⟨m - 1, by omega⟩
    simp [sK, List.replicate_succ] at hs
    rw [← hs.1]; simp
  · rw [stp_pp] at hs
    cases b with
    | nil => exact absurd rfl hb
    | cons c b => simp [sP] at hs; rw [← hs.1]; simp
  · rw [dpD] at hd; exact absurd hd hb
/-- Pieces of one length meet. -/
theorem meet {p q : Pt} (hp : gqs p) (hq : gqs q) (hpd : p.drop.data.toList = []) (hqp : q.put.data.toList = []) (hs : psz p = psz q) (X Y : List St) :
    (0 < p.keep → cmpS (stp p ++ X) (stp q ++ Y) = (cmpS X Y).map (stp q ++ ·)) ∧ (¬ 0 < p.keep → 0 < q.keep → cmpS (stp p ++ X) (stp q ++ Y) = (cmpS X Y).map (stp p ++ ·)) ∧
      (¬ 0 < p.keep → ¬ 0 < q.keep → cmpS (stp p ++ X) (stp q ++ Y) = if p.put = q.drop then cmpS X Y else none) := by
  rcases gqs_cases hp with ⟨m, hm, rfl⟩ | ⟨b, hb, rfl⟩ | ⟨b, hb, rfl⟩
  · refine ⟨fun _ => ?_, fun c => absurd (kp_pos hm) c, fun c => absurd (kp_pos hm) c⟩
    rcases gqs_cases hq with ⟨m', hm', rfl⟩ | ⟨d, hd, rfl⟩ | ⟨d, hd, rfl⟩
    · rw [psz_kp, psz_kp] at hs
      rw [stp_kp, stp_kp, show m' = m by omega]
      exact cmp_keepK X Y m
    · rw [ppP] at hqp; exact absurd hqp hd
    · rw [psz_kp, psz_dp] at hs
      rw [stp_kp, stp_dp, show m = d.length by omega]
      exact cmp_keepD X Y d
  · have hk : ¬ 0 < (pp b).keep := by show ¬ (0 : Int) < 0; omega
    refine ⟨fun c => absurd c hk, fun _ hqk => ?_, fun _ hqk => ?_⟩
    · rcases gqs_cases hq with ⟨m', hm', rfl⟩ | ⟨d, hd, rfl⟩ | ⟨d, hd, rfl⟩
      · rw [psz_pp, psz_kp] at hs
        rw [stp_pp, stp_kp, show m' = b.length by omega]
        exact cmp_putK X Y b
      · rw [ppP] at hqp; exact absurd hqp hd
      · exact absurd hqk (by show ¬ (0 : Int) < 0; omega)
    · rcases gqs_cases hq with ⟨m', hm', rfl⟩ | ⟨d, hd, rfl⟩ | ⟨d, hd, rfl⟩
      · exact absurd (kp_pos hm') hqk
      · rw [ppP] at hqp; exact absurd hqp hd
      · rw [psz_pp, psz_dp] at hs
        rw [stp_pp, stp_dp, cmp_putD X Y b d (by omega)]
        by_cases e : b = d
        · have he : (pp b).put = (dp d).drop := by rw [e]; rfl
          rw [if_pos e, if_pos he]
        · have he : ¬ (pp b).put = (dp d).drop := fun c => e (ba_inj c)
          rw [if_neg e, if_neg he]
  · rw [dpD] at hpd; exact absurd hpd hb
theorem cutA_kind {p : Pt} (h : gqs p) (n : Nat) : (p.drop.data.toList = [] → (cutA p n).drop.data.toList = []) ∧ (p.put.data.toList = [] → (cutA p n).put.data.toList = []) := by
  rcases gqs_cases h with ⟨m, hm, rfl⟩ | ⟨b, hb, rfl⟩ | ⟨b, hb, rfl⟩
  · rw [(cutA_kp hm n).1]; exact ⟨fun _ => kpD n, fun _ => kpP n⟩
  · rw [(cutA_pp hb n).1]; exact ⟨fun _ => ppD _, fun c => by rw [ppP] at c; exact absurd c hb⟩
  · rw [(cutA_dp b n).1]; exact ⟨fun c => by rw [dpD] at c; exact absurd c hb, fun _ => dpP _⟩
theorem psz_pos {p : Pt} (h : gqs p) : 0 < psz p := by
  rcases gqs_cases h with ⟨m, hm, rfl⟩ | ⟨b, hb, rfl⟩ | ⟨b, hb, rfl⟩
  · rw [psz_kp]; omega
  · rw [psz_pp]; have := List.length_pos_iff.2 hb; omega
  · rw [psz_dp]; have := List.length_pos_iff.2 hb; omega
theorem whole_cut {p : Pt} (h : gqs p) (r : List Pt) {n : Nat} (hn : (n : Int) = psz p) : cutA p n = p ∧ restL p n r = r := by
  have h0 := psz_pos h
  exact ⟨(cut_math h (n := n) (by omega) (by omega) r).2.2.2.1 hn, by unfold restL; rw [if_pos hn]⟩
/-- What l3Compose answers. -/
def CPost (X Y : List St) (N : Nat) (w : World) (e : Ending) (w' : World) : Prop := ∃ (v : Value) (ok : Bool), e = .returned (.tuple #[v, .bool ok]) ∧ (ok = true → ∃ P, cmpS X Y = some (stL P) ∧ (∀ p ∈ P, gqs p) ∧ P.length ≤ N ∧ POwn w' w.heap.size v (normL P)) ∧ (ok = false → cmpS X Y = none) ∧ Below w.heap.size w w'

theorem put_eq {q : Pt} (hq : gqs q) (hp : q.put.data.toList ≠ []) {xs ys : List St} (h : noD xs) : cmpS xs (stp q ++ ys) = (cmpS xs ys).map (stp q ++ ·) := by
  rcases gqs_cases hq with ⟨m, hm, rfl⟩ | ⟨b, hb, rfl⟩ | ⟨b, hb, rfl⟩
  · exact absurd (kpP m) hp
  · rw [stp_pp]; exact cmp_put h ys b
  · exact absurd (dpP b) hp
theorem drop_eq {p : Pt} (hp : gqs p) (hd : p.drop.data.toList ≠ []) {xs ys : List St} : cmpS (stp p ++ xs) ys = (cmpS xs ys).map (stp p ++ ·) := by
  rcases gqs_cases hp with ⟨m, hm, rfl⟩ | ⟨b, hb, rfl⟩ | ⟨b, hb, rfl⟩
  · exact absurd (kpD m) hd
  · exact absurd (ppD b) hd
  · rw [stp_dp]; exact cmp_drop ys xs b
theorem none_y {q : Pt} (hq : gqs q) (hp : q.put.data.toList = []) {ys : List St} : cmpS (stL []) (stp q ++ ys) = none := by
  have e : stL [] = [] := rfl
  rw [e]
  rcases gqs_cases hq with ⟨m, hm, rfl⟩ | ⟨b, hb, rfl⟩ | ⟨b, hb, rfl⟩
  · obtain ⟨k, rfl⟩ : ∃ k, m = k + 1 := ⟨m - 1, by omega⟩
    rw [stp_kp, sK, List.replicate_succ, List.cons_append, cmpS_y, if_neg (by simp)]
  · rw [ppP] at hp; exact absurd hp hb
  · cases b with
    | nil => exact absurd rfl hb
    | cons c b => rw [stp_dp, sD, List.map_cons, List.cons_append, cmpS_y, if_neg (by simp)]
theorem none_x {p : Pt} (hp : gqs p) (hd : p.drop.data.toList = []) {xs : List St} : cmpS (stp p ++ xs) (stL []) = none := by
  have e : stL [] = [] := rfl
  rw [e]
  rcases gqs_cases hp with ⟨m, hm, rfl⟩ | ⟨b, hb, rfl⟩ | ⟨b, hb, rfl⟩
  · obtain ⟨k, rfl⟩ : ∃ k, m = k + 1 := ⟨m - 1, by omega⟩
    rw [stp_kp, sK, List.replicate_succ, List.cons_append, cmpS_x, if_neg (by simp)]
  · cases b with
    | nil => exact absurd rfl hb
    | cons c b => rw [stp_pp, sP, List.map_cons, List.cons_append, cmpS_x, if_neg (by simp)]
  · rw [dpD] at hd; exact absurd hd hb

set_option maxRecDepth 100000 in
set_option maxHeartbeats 8000000 in
theorem l3Compose_any {w : World} {aa ab : Option Addr} {ga ca gb cb : Nat} {la lb : List Pt} (ha : Pin w aa ga ca la) (hb : Pin w ab gb cb lb) (hga : ∀ p ∈ la, gqs p) (hgb : ∀ p ∈ lb, gqs p) (hl : la.length + lb.length ≤ 200) :
    Calls Tryd.prog 65 #[.slice aa la.length ca, .slice ab lb.length cb] w (CPost (stL la) (stL lb) (la.length + lb.length) w) := by
  have hlA := ha.lt
  have hlB := hb.lt
  have R0 : ∀ t : TypeId, CS w ga gb la lb [] (.slice none 0 0) ((w.alloc (.cells #[.slice aa la.length ca] t)).alloc (.cells #[.slice ab lb.length cb] t)) := fun t => by
    have hb1 : Below w.heap.size w (w.alloc (.cells #[.slice aa la.length ca] t)) := (Below.refl _ _).alloc (Nat.le_refl _) _
    have r1 := rd_new (W := w) ha.cap (fun k hk => ha.adr hk) ha.at' ha.lt t
    have r2 := rd_new (W := w.alloc (.cells #[.slice aa la.length ca] t)) hb.cap (fun k hk => hb.adr hk) (hb.at'.later hb1 hb.lt) (by simp; omega) t
    rw [World.size_alloc] at r2
    exact ⟨r1.up ((Below.refl _ _).alloc (Nat.le_refl _) _), r2, World.ownsRow_nil _ _ _ _, ⟨(fun e => by cases e), (fun e => by cases e)⟩, ⟨by omega, by omega⟩, hb1.alloc (by simp) _⟩
  have HR := hide (R0 131)
  have C0 : Hid (CE (stL la) (stL lb) la lb [] (la.length + lb.length)) := hide ⟨by cases h : cmpS (stL la) (stL lb) <;> simp [stL], hga, hgb, (fun p hp => by cases hp), by simp⟩
  generalize hX : stL la = X at *
  generalize hY : stL lb = Y at *
  generalize hN : la.length + lb.length = N at *
  have HLA := hide ha
  clear hX hY R0 ha hb hga hgb
  go_enter Tryd.func65, Tryd.ntmps65
  go_wp2_with fail
  go_loopw [6] (fun v wr => ∃ v0, v0 = v ∧ ∃ gx gy lx ly P, Hid (CS w gx gy lx ly P v0 wr) ∧ Hid (CE X Y lx ly P N)) (fun _ wr => rdLen wr w.heap.size + rdLen wr (w.heap.size + 1))
  case atStart => exact ⟨_, rfl, ga, gb, la, lb, [], HR, C0⟩
  case round =>
    obtain ⟨v, hv0, gx, gy, lx, ly, P, HS, HE⟩ := hrel
    subst hv0
    have hsz := HE.out.sz
    have L0x := HS.out.rx.len
    have L0y := HS.out.ry.len
    have NBp := norm_bd P (fun p hp => gqs_pk (HE.out.gP p hp)) P.length (Nat.le_refl _)
    rw [List.take_length] at NBp
    have NL := NBp.1
    have NB := hide NBp.2
    clear HR C0 NBp
    cases lx with
    | nil =>
      cases ly with
      | nil =>
        go_wp2_with fail
        refine (done_nil HS.out.rx).mono ?_
        rintro e w' ⟨rfl, hw⟩
        replace hw := hw.symm; subst hw
        go_wp2_with fail
        refine (done_nil HS.out.ry).mono ?_
        rintro e w' ⟨rfl, hw⟩
        replace hw := hw.symm; subst hw
        have hcm : cmpS X Y = some (stL P) := by rw [HE.out.eq]; simp [stL, cmpS_nil]
        have hgP := HE.out.gP
        have hown := HS.out.ow
        have hbe := HS.out.be
        obtain ⟨av, cv, rfl, -, -⟩ := own_shp hown
        go_wp2
        go_ret2
        exact ⟨_, true, rfl, fun _ => ⟨P, hcm, hgP, by omega, POwn.mono hown (by omega)⟩, (fun c => by cases c), hbe⟩
      | cons q s =>
        have hq := HE.out.gy q (by simp)
        have bq := gqs_bd hq
        simp only [List.length_cons, List.length_nil] at hsz L0x L0y
        obtain ⟨oy, cpy, by_, hcy, ⟨cy0, cy1, cy2⟩, -, -⟩ := HS.out.ry.cons
        cases hpe : decide (q.put.data.toList = []) with
        | false =>
          have hpn : q.put.data.toList ≠ [] := of_decide_eq_false hpe
          have e1 := emp_b q.put
          rw [hpe] at e1
          clear hpe
          go_wp2_with fail
          refine (done_nil HS.out.rx).mono ?_
          rintro e w' ⟨rfl, hw⟩
          replace hw := hw.symm; subst hw
          go_wp2_with fail
          refine (done_cons HS.out.ry).mono ?_
          rintro e w' ⟨rfl, hw⟩
          replace hw := hw.symm; subst hw
          go_wp2_with fail
          refine (done_nil HS.out.rx).mono ?_
          rintro e w' ⟨rfl, hw⟩
          replace hw := hw.symm; subst hw
          go_wp2_with fail
          refine (done_cons HS.out.ry).mono ?_
          rintro e w' ⟨rfl, hw⟩
          replace hw := hw.symm; subst hw
          go_wp2_with fail
          refine (size_any HS.out.ry bq.1 bq.2.1 bq.2.2).mono ?_
          rintro e w2 ⟨rfl, k2, hw⟩
          replace HS := hide (by have := HS.out.drewN k2; rw [← hw] at this; exact this)
          clear hw
          obtain ⟨n, hn⟩ : ∃ n : Nat, (n : Int) = psz q := ⟨(psz q).toNat, by have := psz_pos hq; omega⟩
          obtain ⟨w1, w2'⟩ := whole_cut hq s hn
          have h0n : 0 < n := by have := psz_pos hq; omega
          have hln : (n : Int) ≤ psz q := by omega
          have CT := hide (take_gq HS.out.ry hq (by omega) (n := n) h0n hln)
          rw [w1, w2', hn] at CT
          unfold ptV at CT
          clear hn h0n hln w1 w2'
          go_wp2_with fail
          refine CT.out.mono ?_
          rintro e w3 ⟨rfl, g3, hr, hg', hgr⟩
          replace HS := hide (HS.out.takeY hr hg' hgr)
          clear CT hr hg' hgr by_ cy0 cy1 cy2
          have AD := hide (l3Add_fr q HS.out.ow (by have := HS.out.ry.lt; omega) (by omega) (fun q hq => (NB.out q hq).mono (by omega)) (gqs_pk hq))
          unfold ptV at AD
          obtain ⟨av, cv, hv, -, -⟩ := own_shp HS.out.ow
          subst hv
          go_wp2_with fail
          refine AD.out.mono ?_
          rintro e w4 ⟨v2, rfl, ow2, fr2, loc2⟩
          replace HS := hide (HS.out.add ow2 fr2 loc2)
          clear AD ow2 fr2 loc2
          have CE2 := hide (HE.out.told (lx' := []) (ly' := s) (p := q) (by rw [stL_cons]; exact put_eq hq hpn (fun x r c => by cases c)) HE.out.gx (fun z hz => HE.out.gy z (by simp [hz])) hq (by first | omega | (simp only [List.length_cons]; omega) | (simp only [List.length_nil]; omega) | (simp only [List.length_nil, List.length_cons]; omega)))
          go_wp2
          go_roundw
          case rel => exact ⟨v2, rfl, _, _, [], s, P ++ [q], HS, CE2⟩
          case measure => rw [HS.out.rx.len, HS.out.ry.len, L0x, L0y]; first | omega | (simp only [List.length_cons]; omega) | (simp only [List.length_nil]; omega) | (simp only [List.length_nil, List.length_cons]; omega)
        | true =>
          have hpn : q.put.data.toList = [] := of_decide_eq_true hpe
          have e1 := emp_b q.put
          rw [hpe] at e1
          clear hpe
          go_wp2_with fail
          refine (done_nil HS.out.rx).mono ?_
          rintro e w' ⟨rfl, hw⟩
          replace hw := hw.symm; subst hw
          go_wp2_with fail
          refine (done_cons HS.out.ry).mono ?_
          rintro e w' ⟨rfl, hw⟩
          replace hw := hw.symm; subst hw
          go_wp2_with fail
          refine (done_nil HS.out.rx).mono ?_
          rintro e w' ⟨rfl, hw⟩
          replace hw := hw.symm; subst hw
          go_wp2_with fail
          refine (done_cons HS.out.ry).mono ?_
          rintro e w' ⟨rfl, hw⟩
          replace hw := hw.symm; subst hw
          go_wp2_with fail
          refine (done_nil HS.out.rx).mono ?_
          rintro e w' ⟨rfl, hw⟩
          replace hw := hw.symm; subst hw
          have hcm : cmpS X Y = none := by rw [HE.out.eq]; rw [stL_cons, none_y hq hpn]; rfl
          have hbe := HS.out.be
          obtain ⟨av, cv, hv, -, -⟩ := own_shp HS.out.ow
          subst hv
          go_wp2
          go_ret2
          exact ⟨_, false, rfl, (fun c => by cases c), fun _ => hcm, hbe⟩
    | cons p r =>
      have hp := HE.out.gx p (by simp)
      have bp := gqs_bd hp
      simp only [List.length_cons] at hsz L0x
      obtain ⟨ox, cpx, bx, hcx, ⟨cx0, cx1, cx2⟩, -, -⟩ := HS.out.rx.cons
      cases hde : decide (p.drop.data.toList = []) with
      | false =>
        have hdn : p.drop.data.toList ≠ [] := of_decide_eq_false hde
        have e1 := emp_b p.drop
        rw [hde] at e1
        clear hde
        go_wp2_with fail
        refine (done_cons HS.out.rx).mono ?_
        rintro e w' ⟨rfl, hw⟩
        replace hw := hw.symm; subst hw
        go_wp2_with fail
        refine (done_cons HS.out.rx).mono ?_
        rintro e w' ⟨rfl, hw⟩
        replace hw := hw.symm; subst hw
        go_wp2_with fail
        refine (size_any HS.out.rx bp.1 bp.2.1 bp.2.2).mono ?_
        rintro e w2 ⟨rfl, k2, hw⟩
        replace HS := hide (by have := HS.out.drewN k2; rw [← hw] at this; exact this)
        clear hw
        obtain ⟨n, hn⟩ : ∃ n : Nat, (n : Int) = psz p := ⟨(psz p).toNat, by have := psz_pos hp; omega⟩
        obtain ⟨w1, w2'⟩ := whole_cut hp r hn
        have h0n : 0 < n := by have := psz_pos hp; omega
        have hln : (n : Int) ≤ psz p := by omega
        have CT := hide (take_gq HS.out.rx hp (by omega) (n := n) h0n hln)
        rw [w1, w2', hn] at CT
        unfold ptV at CT
        clear hn h0n hln w1 w2'
        go_wp2_with fail
        refine CT.out.mono ?_
        rintro e w3 ⟨rfl, g3, hr, hg', hgr⟩
        replace HS := hide (HS.out.takeX hr hg' hgr)
        clear CT hr hg' hgr bx cx0 cx1 cx2
        have AD := hide (l3Add_fr p HS.out.ow (by have := HS.out.ry.lt; omega) (by omega) (fun q hq => (NB.out q hq).mono (by omega)) (gqs_pk hp))
        unfold ptV at AD
        obtain ⟨av, cv, hv, -, -⟩ := own_shp HS.out.ow
        subst hv
        go_wp2_with fail
        refine AD.out.mono ?_
        rintro e w4 ⟨v2, rfl, ow2, fr2, loc2⟩
        replace HS := hide (HS.out.add ow2 fr2 loc2)
        clear AD ow2 fr2 loc2
        have CE2 := hide (HE.out.told (lx' := r) (ly' := ly) (p := p) (by rw [stL_cons]; exact drop_eq hp hdn) (fun z hz => HE.out.gx z (by simp [hz])) HE.out.gy hp (by first | omega | (simp only [List.length_cons]; omega) | (simp only [List.length_nil]; omega) | (simp only [List.length_nil, List.length_cons]; omega)))
        go_wp2
        go_roundw
        case rel => exact ⟨v2, rfl, _, _, r, ly, P ++ [p], HS, CE2⟩
        case measure => rw [HS.out.rx.len, HS.out.ry.len, L0x, L0y]; first | omega | (simp only [List.length_cons]; omega) | (simp only [List.length_nil]; omega) | (simp only [List.length_nil, List.length_cons]; omega)
      | true =>
        have hpd : p.drop.data.toList = [] := of_decide_eq_true hde
        have e1 := emp_b p.drop
        rw [hde] at e1
        clear hde
        cases ly with
        | nil =>
          simp only [List.length_nil] at hsz L0y
          go_wp2_with fail
          refine (done_cons HS.out.rx).mono ?_
          rintro e w' ⟨rfl, hw⟩
          replace hw := hw.symm; subst hw
          go_wp2_with fail
          refine (done_cons HS.out.rx).mono ?_
          rintro e w' ⟨rfl, hw⟩
          replace hw := hw.symm; subst hw
          go_wp2_with fail
          refine (done_nil HS.out.ry).mono ?_
          rintro e w' ⟨rfl, hw⟩
          replace hw := hw.symm; subst hw
          go_wp2_with fail
          refine (done_cons HS.out.rx).mono ?_
          rintro e w' ⟨rfl, hw⟩
          replace hw := hw.symm; subst hw
          go_wp2_with fail
          refine (done_nil HS.out.ry).mono ?_
          rintro e w' ⟨rfl, hw⟩
          replace hw := hw.symm; subst hw
          have hcm : cmpS X Y = none := by rw [HE.out.eq]; rw [stL_cons, none_x hp hpd]; rfl
          have hbe := HS.out.be
          obtain ⟨av, cv, hv, -, -⟩ := own_shp HS.out.ow
          subst hv
          go_wp2
          go_ret2
          exact ⟨_, false, rfl, (fun c => by cases c), fun _ => hcm, hbe⟩
        | cons q s =>
          have hq := HE.out.gy q (by simp)
          have bq := gqs_bd hq
          simp only [List.length_cons] at hsz L0y
          obtain ⟨oy, cpy, by_, hcy, ⟨cy0, cy1, cy2⟩, -, -⟩ := HS.out.ry.cons
          cases hpe : decide (q.put.data.toList = []) with
          | false =>
            have hpn : q.put.data.toList ≠ [] := of_decide_eq_false hpe
            have e2 := emp_b q.put
            rw [hpe] at e2
            clear hpe
            go_wp2_with fail
            refine (done_cons HS.out.rx).mono ?_
            rintro e w' ⟨rfl, hw⟩
            replace hw := hw.symm; subst hw
            go_wp2_with fail
            refine (done_cons HS.out.rx).mono ?_
            rintro e w' ⟨rfl, hw⟩
            replace hw := hw.symm; subst hw
            go_wp2_with fail
            refine (done_cons HS.out.ry).mono ?_
            rintro e w' ⟨rfl, hw⟩
            replace hw := hw.symm; subst hw
            go_wp2_with fail
            refine (size_any HS.out.ry bq.1 bq.2.1 bq.2.2).mono ?_
            rintro e w2 ⟨rfl, k2, hw⟩
            replace HS := hide (by have := HS.out.drewN k2; rw [← hw] at this; exact this)
            clear hw
            obtain ⟨n, hn⟩ : ∃ n : Nat, (n : Int) = psz q := ⟨(psz q).toNat, by have := psz_pos hq; omega⟩
            obtain ⟨w1, w2'⟩ := whole_cut hq s hn
            have h0n : 0 < n := by have := psz_pos hq; omega
            have hln : (n : Int) ≤ psz q := by omega
            have CT := hide (take_gq HS.out.ry hq (by omega) (n := n) h0n hln)
            rw [w1, w2', hn] at CT
            unfold ptV at CT
            clear hn h0n hln w1 w2'
            go_wp2_with fail
            refine CT.out.mono ?_
            rintro e w3 ⟨rfl, g3, hr, hg', hgr⟩
            replace HS := hide (HS.out.takeY hr hg' hgr)
            clear CT hr hg' hgr by_ cy0 cy1 cy2
            have AD := hide (l3Add_fr q HS.out.ow (by have := HS.out.ry.lt; omega) (by omega) (fun q hq => (NB.out q hq).mono (by omega)) (gqs_pk hq))
            unfold ptV at AD
            obtain ⟨av, cv, hv, -, -⟩ := own_shp HS.out.ow
            subst hv
            go_wp2_with fail
            refine AD.out.mono ?_
            rintro e w4 ⟨v2, rfl, ow2, fr2, loc2⟩
            replace HS := hide (HS.out.add ow2 fr2 loc2)
            clear AD ow2 fr2 loc2
            have CE2 := hide (HE.out.told (lx' := (p :: r)) (ly' := s) (p := q) (by rw [stL_cons]; exact put_eq hq hpn (noD_head hp hpd)) HE.out.gx (fun z hz => HE.out.gy z (by simp [hz])) hq (by first | omega | (simp only [List.length_cons]; omega) | (simp only [List.length_nil]; omega) | (simp only [List.length_nil, List.length_cons]; omega)))
            go_wp2
            go_roundw
            case rel => exact ⟨v2, rfl, _, _, (p :: r), s, P ++ [q], HS, CE2⟩
            case measure => rw [HS.out.rx.len, HS.out.ry.len, L0x, L0y]; first | omega | (simp only [List.length_cons]; omega) | (simp only [List.length_nil]; omega) | (simp only [List.length_nil, List.length_cons]; omega)
          | true =>
            have hqp : q.put.data.toList = [] := of_decide_eq_true hpe
            have e2 := emp_b q.put
            rw [hpe] at e2
            clear hpe
            have zp := psz_pos hp
            have zq := psz_pos hq
            have zp3 := hp.2
            have zq3 := hq.2
            obtain ⟨n, hn⟩ : ∃ n : Nat, (n : Int) = if psz q < psz p then psz q else psz p := ⟨(if psz q < psz p then psz q else psz p).toNat, by split <;> omega⟩
            have h0n : 0 < n := by split at hn <;> omega
            have hnp : (n : Int) ≤ psz p := by split at hn <;> omega
            have hnq : (n : Int) ≤ psz q := by split at hn <;> omega
            have hone : (n : Int) = psz p ∨ (n : Int) = psz q := by split at hn <;> omega
            obtain ⟨x1, x2, x3, -, -⟩ := cut_math hp h0n hnp r
            obtain ⟨y1, y2, y3, -, -⟩ := cut_math hq h0n hnq s
            have hgx := hide (rest_g HE.out.gx h0n hnp)
            have hgy := hide (rest_g HE.out.gy h0n hnq)
            have hlen : (restL p n r).length + (restL q n s).length + 1 ≤ r.length + 1 + (s.length + 1) := by
              rw [rest_len, rest_len]
              rcases hone with e | e
              · rw [if_pos e]; split <;> omega
              · rw [if_pos e]; split <;> omega
            have MT := hide (meet x2 y2 ((cutA_kind hp n).1 hpd) ((cutA_kind hq n).2 hqp) (by rw [x3, y3]) (stL (restL p n r)) (stL (restL q n s)))
            have EQ0 : Hid (cmpS (stL (p :: r)) (stL (q :: s)) = cmpS (stp (cutA p n) ++ stL (restL p n r)) (stp (cutA q n) ++ stL (restL q n s))) := hide (by rw [stL_cons, stL_cons, x1, y1])
            have b2 := gqs_bd x2
            have b3 := gqs_bd y2
            have hx2 := hide x2
            have hy2 := hide y2
            clear x1 y1 x2 y2 x3 y3 hone
            have TX : Hid (∀ W g, Rd W w.heap.size g (p :: r) → Calls Tryd.prog 92 #[.pointer (some ⟨w.heap.size, 0, none⟩), .int .i64 (n : Int)] W fun e w' => e = .returned (.agg #[.int .i64 (cutA p n).keep, .string (cutA p n).put, .string (cutA p n).drop]) ∧ ∃ g', Rd w' w.heap.size g' (restL p n r) ∧ (g' = g ∨ W.heap.size ≤ g') ∧ W.grownBy w' (some w.heap.size)) := hide (fun W g h => take_gq h hp (by omega) h0n hnp)
            have TY : Hid (∀ W g, Rd W (w.heap.size + 1) g (q :: s) → Calls Tryd.prog 92 #[.pointer (some ⟨w.heap.size + 1, 0, none⟩), .int .i64 (n : Int)] W fun e w' => e = .returned (.agg #[.int .i64 (cutA q n).keep, .string (cutA q n).put, .string (cutA q n).drop]) ∧ ∃ g', Rd w' (w.heap.size + 1) g' (restL q n s) ∧ (g' = g ∨ W.heap.size ≤ g') ∧ W.grownBy w' (some (w.heap.size + 1))) := hide (fun W g h => take_gq h hq (by omega) h0n hnq)
            have SX : Hid (∀ W g, Rd W w.heap.size g (p :: r) → Calls Tryd.prog 93 #[.pointer (some ⟨w.heap.size, 0, none⟩)] W fun e w' => e = .returned (.int .i64 (psz p)) ∧ ∃ k, w' = W.drewN k) := hide (fun W g h => size_any h bp.1 bp.2.1 bp.2.2)
            have SY : Hid (∀ W g, Rd W (w.heap.size + 1) g (q :: s) → Calls Tryd.prog 93 #[.pointer (some ⟨w.heap.size + 1, 0, none⟩)] W fun e w' => e = .returned (.int .i64 (psz q)) ∧ ∃ k, w' = W.drewN k) := hide (fun W g h => size_any h bq.1 bq.2.1 bq.2.2)
            have HEg := hide (fun (z : Pt) (lx' ly' : List Pt) (e : cmpS (stL (p :: r)) (stL (q :: s)) = (cmpS (stL lx') (stL ly')).map (stp z ++ ·)) (h1 : ∀ c ∈ lx', gqs c) (h2 : ∀ c ∈ ly', gqs c) (h3 : gqs z) (h4 : lx'.length + ly'.length + 1 ≤ (p :: r).length + (q :: s).length) => HE.out.told e h1 h2 h3 h4)
            have HEs := hide (fun (lx' ly' : List Pt) (e : cmpS (stL (p :: r)) (stL (q :: s)) = cmpS (stL lx') (stL ly')) (h1 : ∀ c ∈ lx', gqs c) (h2 : ∀ c ∈ ly', gqs c) (h4 : lx'.length + ly'.length ≤ (p :: r).length + (q :: s).length) => HE.out.skip e h1 h2 h4)
            have HEe := hide HE.out.eq
            clear b2 b3 hnp hnq h0n
            generalize hp' : cutA p n = p' at *
            generalize hq' : cutA q n = q' at *
            generalize hrx : restL p n r = rx at *
            generalize hry : restL q n s = ry at *
            clear hp' hq' hrx hry HE
            by_cases hlt : psz q < psz p
            · skip
              rw [if_pos hlt] at hn
              rw [hn] at TX TY
              clear hn
              go_wp2_with fail
              refine (done_cons HS.out.rx).mono ?_
              rintro e w' ⟨rfl, hw⟩
              replace hw := hw.symm; subst hw
              go_wp2_with fail
              refine (done_cons HS.out.rx).mono ?_
              rintro e w' ⟨rfl, hw⟩
              replace hw := hw.symm; subst hw
              go_wp2_with fail
              refine (done_cons HS.out.ry).mono ?_
              rintro e w' ⟨rfl, hw⟩
              replace hw := hw.symm; subst hw
              go_wp2_with fail
              refine (done_cons HS.out.rx).mono ?_
              rintro e w' ⟨rfl, hw⟩
              replace hw := hw.symm; subst hw
              go_wp2_with fail
              refine (done_cons HS.out.ry).mono ?_
              rintro e w' ⟨rfl, hw⟩
              replace hw := hw.symm; subst hw
              clear bx cx0 cx1 cx2 by_ cy0 cy1 cy2
              go_wp2_with fail
              refine (SX.out _ _ HS.out.rx).mono ?_
              rintro e wa ⟨rfl, kk, hw⟩
              replace HS := hide (by have := HS.out.drewN kk; rw [← hw] at this; exact this)
              clear hw kk
              go_wp2_with fail
              refine (SY.out _ _ HS.out.ry).mono ?_
              rintro e wb ⟨rfl, kk, hw⟩
              replace HS := hide (by have := HS.out.drewN kk; rw [← hw] at this; exact this)
              clear hw kk
              go_wp2_with fail
              refine (SY.out _ _ HS.out.ry).mono ?_
              rintro e wc ⟨rfl, kk, hw⟩
              replace HS := hide (by have := HS.out.drewN kk; rw [← hw] at this; exact this)
              clear hw kk
              go_wp2_with fail
              refine (TX.out _ _ HS.out.rx).mono ?_
              rintro e w5 ⟨rfl, g5, hr, hg', hgr⟩
              have HSz := HS
              have hgz := hide hgr
              replace HS := hide ((HS.out.takeX hr hg' hgr).up ((Below.refl _ _).alloc (Nat.le_refl _) (.cells #[.int .i64 p'.keep, .string p'.put, .string p'.drop] 79)))
              clear hr hg' hgr TX SX SY
              go_wp2_with fail
              refine (TY.out _ _ HS.out.ry).mono ?_
              rintro e w7 ⟨rfl, g7, hr, hg', hgr⟩
              have h5 : w.heap.size + 1 < w5.heap.size := by have := HSz.out.ry.lt.1; have := hgz.out.size; omega
              have hPb := hide ((hgr.block w5.heap.size (by simp) (fun e => by have := Option.some.inj e; omega)).trans (heap_alloc_new w5 _))
              have hs7 : w5.heap.size < w7.heap.size := by have := hgr.size; simp at this; omega
              replace HS := hide ((HS.out.takeY hr hg' hgr).up ((Below.refl _ _).alloc (Nat.le_refl _) (.cells #[.int .i64 q'.keep, .string q'.put, .string q'.drop] 79)))
              clear hr hg' hgr TY
              obtain ⟨⟨pa0, pa1, pa2⟩, -⟩ := cells3_of ((Below.heap_alloc w7 (.cells #[.int .i64 q'.keep, .string q'.put, .string q'.drop] 79) _ hs7).trans hPb.out)
              have hB2 : w.heap.size + 2 ≤ (w7.alloc (.cells #[.int .i64 q'.keep, .string q'.put, .string q'.drop] 79)).heap.size := by simp; omega
              by_cases hkp : 0 < p'.keep
              · have d1 : decide (0 < p'.keep) = true := decide_eq_true hkp
                have CE2 := hide (HEg.out q' rx ry (by rw [EQ0.out]; exact MT.out.1 (by omega)) hgx.out hgy.out hy2.out (by first | omega | (simp only [List.length_cons]; omega) | (simp only [List.length_nil]; omega) | (simp only [List.length_nil, List.length_cons]; omega)))
                have AD := hide (l3Add_fr q' HS.out.ow hB2 (by omega) (fun q hq => (NB.out q hq).mono (by omega)) (gqs_pk hy2.out))
                unfold ptV at AD
                obtain ⟨av, cv, hv, -, -⟩ := own_shp HS.out.ow
                subst hv
                go_wp2_with fail
                refine AD.out.mono ?_
                rintro e w8 ⟨v2, rfl, ow2, fr2, loc2⟩
                replace HS := hide (HS.out.add ow2 fr2 loc2)
                clear AD ow2 fr2 loc2 pa0 pa1 pa2
                go_wp2
                go_roundw
                case rel => exact ⟨v2, rfl, _, _, rx, ry, P ++ [q'], HS, CE2⟩
                case measure => rw [HS.out.rx.len, HS.out.ry.len, L0x, L0y]; omega
              · have d1 : decide (0 < p'.keep) = false := decide_eq_false hkp
                by_cases hkq : 0 < q'.keep
                · have d2 : decide (0 < q'.keep) = true := decide_eq_true hkq
                  have CE2 := hide (HEg.out p' rx ry (by rw [EQ0.out]; exact MT.out.2.1 (by omega) (by omega)) hgx.out hgy.out hx2.out (by first | omega | (simp only [List.length_cons]; omega) | (simp only [List.length_nil]; omega) | (simp only [List.length_nil, List.length_cons]; omega)))
                  have AD := hide (l3Add_fr p' HS.out.ow hB2 (by omega) (fun q hq => (NB.out q hq).mono (by omega)) (gqs_pk hx2.out))
                  unfold ptV at AD
                  obtain ⟨av, cv, hv, -, -⟩ := own_shp HS.out.ow
                  subst hv
                  go_wp2_with fail
                  refine AD.out.mono ?_
                  rintro e w8 ⟨v2, rfl, ow2, fr2, loc2⟩
                  replace HS := hide (HS.out.add ow2 fr2 loc2)
                  clear AD ow2 fr2 loc2 pa0 pa1 pa2
                  go_wp2
                  go_roundw
                  case rel => exact ⟨v2, rfl, _, _, rx, ry, P ++ [p'], HS, CE2⟩
                  case measure => rw [HS.out.rx.len, HS.out.ry.len, L0x, L0y]; omega
                · have d2 : decide (0 < q'.keep) = false := decide_eq_false hkq
                  have M3 := MT.out.2.2 (by omega) (by omega)
                  obtain ⟨av, cv, hv, -, -⟩ := own_shp HS.out.ow
                  subst hv
                  by_cases he : p'.put = q'.drop
                  · rw [if_pos he] at M3
                    have CE2 := hide (HEs.out rx ry (by rw [EQ0.out]; exact M3) hgx.out hgy.out (by first | omega | (simp only [List.length_cons]; omega) | (simp only [List.length_nil]; omega) | (simp only [List.length_nil, List.length_cons]; omega)))
                    have he3 : (p'.put.toList == q'.drop.toList) = true := by rw [he]; simp
                    have he4 : decide (p'.put = q'.drop) = true := decide_eq_true he
                    clear he M3
                    go_wp2
                    go_roundw
                    case rel => exact ⟨_, rfl, _, _, rx, ry, P, HS, CE2⟩
                    case measure => rw [HS.out.rx.len, HS.out.ry.len, L0x, L0y]; omega
                  · rw [if_neg he] at M3
                    have hcm : cmpS X Y = none := by rw [HEe.out, EQ0.out, M3]; rfl
                    have he3 : (p'.put.toList == q'.drop.toList) = false := by rw [ByteArray.toList_eq, ByteArray.toList_eq]; exact beq_eq_false_iff_ne.2 (fun c => he (ba_eq c))
                    have hbe := HS.out.be
                    clear M3
                    go_wp2
                    go_ret2
                    exact ⟨_, false, rfl, (fun c => by cases c), fun _ => hcm, hbe⟩
            · skip
              rw [if_neg hlt] at hn
              rw [hn] at TX TY
              clear hn
              replace hlt : psz p ≤ psz q := by omega
              go_wp2_with fail
              refine (done_cons HS.out.rx).mono ?_
              rintro e w' ⟨rfl, hw⟩
              replace hw := hw.symm; subst hw
              go_wp2_with fail
              refine (done_cons HS.out.rx).mono ?_
              rintro e w' ⟨rfl, hw⟩
              replace hw := hw.symm; subst hw
              go_wp2_with fail
              refine (done_cons HS.out.ry).mono ?_
              rintro e w' ⟨rfl, hw⟩
              replace hw := hw.symm; subst hw
              go_wp2_with fail
              refine (done_cons HS.out.rx).mono ?_
              rintro e w' ⟨rfl, hw⟩
              replace hw := hw.symm; subst hw
              go_wp2_with fail
              refine (done_cons HS.out.ry).mono ?_
              rintro e w' ⟨rfl, hw⟩
              replace hw := hw.symm; subst hw
              clear bx cx0 cx1 cx2 by_ cy0 cy1 cy2
              go_wp2_with fail
              refine (SX.out _ _ HS.out.rx).mono ?_
              rintro e wa ⟨rfl, kk, hw⟩
              replace HS := hide (by have := HS.out.drewN kk; rw [← hw] at this; exact this)
              clear hw kk
              go_wp2_with fail
              refine (SY.out _ _ HS.out.ry).mono ?_
              rintro e wb ⟨rfl, kk, hw⟩
              replace HS := hide (by have := HS.out.drewN kk; rw [← hw] at this; exact this)
              clear hw kk
              go_wp2_with fail
              refine (TX.out _ _ HS.out.rx).mono ?_
              rintro e w5 ⟨rfl, g5, hr, hg', hgr⟩
              have HSz := HS
              have hgz := hide hgr
              replace HS := hide ((HS.out.takeX hr hg' hgr).up ((Below.refl _ _).alloc (Nat.le_refl _) (.cells #[.int .i64 p'.keep, .string p'.put, .string p'.drop] 79)))
              clear hr hg' hgr TX SX SY
              go_wp2_with fail
              refine (TY.out _ _ HS.out.ry).mono ?_
              rintro e w7 ⟨rfl, g7, hr, hg', hgr⟩
              have h5 : w.heap.size + 1 < w5.heap.size := by have := HSz.out.ry.lt.1; have := hgz.out.size; omega
              have hPb := hide ((hgr.block w5.heap.size (by simp) (fun e => by have := Option.some.inj e; omega)).trans (heap_alloc_new w5 _))
              have hs7 : w5.heap.size < w7.heap.size := by have := hgr.size; simp at this; omega
              replace HS := hide ((HS.out.takeY hr hg' hgr).up ((Below.refl _ _).alloc (Nat.le_refl _) (.cells #[.int .i64 q'.keep, .string q'.put, .string q'.drop] 79)))
              clear hr hg' hgr TY
              obtain ⟨⟨pa0, pa1, pa2⟩, -⟩ := cells3_of ((Below.heap_alloc w7 (.cells #[.int .i64 q'.keep, .string q'.put, .string q'.drop] 79) _ hs7).trans hPb.out)
              have hB2 : w.heap.size + 2 ≤ (w7.alloc (.cells #[.int .i64 q'.keep, .string q'.put, .string q'.drop] 79)).heap.size := by simp; omega
              by_cases hkp : 0 < p'.keep
              · have d1 : decide (0 < p'.keep) = true := decide_eq_true hkp
                have CE2 := hide (HEg.out q' rx ry (by rw [EQ0.out]; exact MT.out.1 (by omega)) hgx.out hgy.out hy2.out (by first | omega | (simp only [List.length_cons]; omega) | (simp only [List.length_nil]; omega) | (simp only [List.length_nil, List.length_cons]; omega)))
                have AD := hide (l3Add_fr q' HS.out.ow hB2 (by omega) (fun q hq => (NB.out q hq).mono (by omega)) (gqs_pk hy2.out))
                unfold ptV at AD
                obtain ⟨av, cv, hv, -, -⟩ := own_shp HS.out.ow
                subst hv
                go_wp2_with fail
                refine AD.out.mono ?_
                rintro e w8 ⟨v2, rfl, ow2, fr2, loc2⟩
                replace HS := hide (HS.out.add ow2 fr2 loc2)
                clear AD ow2 fr2 loc2 pa0 pa1 pa2
                go_wp2
                go_roundw
                case rel => exact ⟨v2, rfl, _, _, rx, ry, P ++ [q'], HS, CE2⟩
                case measure => rw [HS.out.rx.len, HS.out.ry.len, L0x, L0y]; omega
              · have d1 : decide (0 < p'.keep) = false := decide_eq_false hkp
                by_cases hkq : 0 < q'.keep
                · have d2 : decide (0 < q'.keep) = true := decide_eq_true hkq
                  have CE2 := hide (HEg.out p' rx ry (by rw [EQ0.out]; exact MT.out.2.1 (by omega) (by omega)) hgx.out hgy.out hx2.out (by first | omega | (simp only [List.length_cons]; omega) | (simp only [List.length_nil]; omega) | (simp only [List.length_nil, List.length_cons]; omega)))
                  have AD := hide (l3Add_fr p' HS.out.ow hB2 (by omega) (fun q hq => (NB.out q hq).mono (by omega)) (gqs_pk hx2.out))
                  unfold ptV at AD
                  obtain ⟨av, cv, hv, -, -⟩ := own_shp HS.out.ow
                  subst hv
                  go_wp2_with fail
                  refine AD.out.mono ?_
                  rintro e w8 ⟨v2, rfl, ow2, fr2, loc2⟩
                  replace HS := hide (HS.out.add ow2 fr2 loc2)
                  clear AD ow2 fr2 loc2 pa0 pa1 pa2
                  go_wp2
                  go_roundw
                  case rel => exact ⟨v2, rfl, _, _, rx, ry, P ++ [p'], HS, CE2⟩
                  case measure => rw [HS.out.rx.len, HS.out.ry.len, L0x, L0y]; omega
                · have d2 : decide (0 < q'.keep) = false := decide_eq_false hkq
                  have M3 := MT.out.2.2 (by omega) (by omega)
                  obtain ⟨av, cv, hv, -, -⟩ := own_shp HS.out.ow
                  subst hv
                  by_cases he : p'.put = q'.drop
                  · rw [if_pos he] at M3
                    have CE2 := hide (HEs.out rx ry (by rw [EQ0.out]; exact M3) hgx.out hgy.out (by first | omega | (simp only [List.length_cons]; omega) | (simp only [List.length_nil]; omega) | (simp only [List.length_nil, List.length_cons]; omega)))
                    have he3 : (p'.put.toList == q'.drop.toList) = true := by rw [he]; simp
                    have he4 : decide (p'.put = q'.drop) = true := decide_eq_true he
                    clear he M3
                    go_wp2
                    go_roundw
                    case rel => exact ⟨_, rfl, _, _, rx, ry, P, HS, CE2⟩
                    case measure => rw [HS.out.rx.len, HS.out.ry.len, L0x, L0y]; omega
                  · rw [if_neg he] at M3
                    have hcm : cmpS X Y = none := by rw [HEe.out, EQ0.out, M3]; rfl
                    have he3 : (p'.put.toList == q'.drop.toList) = false := by rw [ByteArray.toList_eq, ByteArray.toList_eq]; exact beq_eq_false_iff_ne.2 (fun c => he (ba_eq c))
                    have hbe := HS.out.be
                    clear M3
                    go_wp2
                    go_ret2
                    exact ⟨_, false, rfl, (fun c => by cases c), fun _ => hcm, hbe⟩
end Go.Proofs.YtkjioadmebkaoabDoor

namespace Go.Proofs.YtkjioadmebkaoabDoor
open Go.RowKit
open Doc1

theorem own_pin0 {w : World} {B : Nat} {v : Value} {l : List Pt} (h : POwn w B v l) (h0w : 0 < w.heap.size) (hs : ∀ p ∈ l, p.put.size ≤ 1048576 ∧ p.drop.size ≤ 1048576) (hl : l.length ≤ 1048576) :
    ∃ aw g cap, v = .slice aw l.length cap ∧ Pin w aw g cap l := by
  rcases Nat.eq_zero_or_pos l.length with h0 | h0
  · obtain rfl := List.eq_nil_of_length_eq_zero h0
    rcases h.2 with ⟨rfl, -⟩ | ⟨g, cap, cur, rfl, hb, hh, hle, hm, hz, ht⟩
    · exact ⟨none, 0, 0, rfl, ⟨by simp, by unfold maxLen; omega⟩, fun i hi => by simp at hi, by simp, (fun j u hu => by simp [encP] at hu), h0w, fun c => absurd rfl c⟩
    · exact ⟨_, g, cap, rfl, ⟨by simp, hm⟩, fun i hi => by simp at hi, by simp, (fun j u hu => by simp [encP] at hu), (Array.getElem?_eq_some_iff.1 hh).1, fun _ => rfl⟩
  · obtain ⟨g, cap, rfl, hle, hm, hB, hlt, hc, hbk⟩ := own_cat h h0
    exact ⟨_, g, cap, rfl, ⟨hle, hm⟩, fun i hi => hs _ (List.getElem_mem hi), hl, hc, hlt, fun _ => rfl⟩
theorem norm_gqs {l : List Pt} (hg : goodO l = true) : (∀ q ∈ normL l, gqs q) ∧ (normL l).length ≤ 60 := by
  have hp := goodO_pk hg
  have hn := goodO_pk (norm_goodO hg).1
  exact ⟨fun q hq => pk_gqs (gq_norm hp q hq) (hn q hq), (goodO_le (norm_goodO hg).1).1⟩
theorem gqs_small {P : List Pt} (h : ∀ p ∈ P, gqs p) : ∀ p ∈ P, p.put.size ≤ 1048576 ∧ p.drop.size ≤ 1048576 := fun p hp => by
  obtain ⟨-, h2, h3⟩ := gqs_bd (h p hp)
  omega
theorem normP_small {P : List Pt} (h : ∀ p ∈ P, gqs p) (hl : P.length ≤ 200) : (∀ p ∈ normL P, p.put.size ≤ 1048576 ∧ p.drop.size ≤ 1048576) ∧ (normL P).length ≤ 1048576 := by
  have hn := norm_bd P (fun p hp => gqs_pk (h p hp)) P.length (Nat.le_refl _)
  rw [List.take_length] at hn
  refine ⟨fun q hq => ?_, by omega⟩
  have := hn.2 q hq
  exact ⟨by have := this.2.1; omega, by have := this.2.2; omega⟩
theorem cmpO_model {a b : List Pt} (ha : goodO a = true) (hb : goodO b = true) :
    (cmpS (stL (normL a)) (stL (normL b)) = none → cmpO a b = ([], false)) ∧ (∀ P, cmpS (stL (normL a)) (stL (normL b)) = some (stL P) → (∀ p ∈ P, gqs p) → cmpO a b = (if goodO (normL P) then normL P else [], goodO (normL P))) := by
  obtain ⟨h1, h2⟩ := cmpO_eq ha hb
  rcases cmp_norm (goodO_pk ha) (goodO_pk hb) with ⟨e1, e2⟩ | ⟨x, y, e1, e2, hxy⟩
  · exact ⟨fun _ => h2 e2, fun P hP => by rw [e1] at hP; cases hP⟩
  · refine ⟨fun h => (by rw [e1] at h; cases h), fun P hP hg => ?_⟩
    rw [e1] at hP
    cases hP
    rw [h1 y e2, ← hxy g0, norm_gath P (fun p hp => gqs_pk (hg p hp))]

set_option maxRecDepth 100000 in
set_option maxHeartbeats 4000000 in
theorem compS {w : World} {aa ab : Option Addr} {ga ca gb cb : Nat} {la lb : List Pt} (ha : Pin w aa ga ca la) (hb : Pin w ab gb cb lb) :
    Calls Tryd.prog 35 #[.slice aa la.length ca, .slice ab lb.length cb] w fun e w' => ∃ v, e = .returned (.tuple #[v, .bool (cmpO la lb).2]) ∧ POwn w' w.heap.size v (cmpO la lb).1 ∧ Below w.heap.size w w' := by
  have GA := hide (goodOpS ha)
  have GB := hide (fun w1 (h : Below w.heap.size w w1) => goodOpS (hb.later h))
  cases h1 : goodO la with
  | false =>
    rw [cmpO_no (fun c => by have := c.1; rw [h1] at this; cases this)]
    rw [h1] at GA
    clear ha hb GB
    go_enter Tryd.func35, Tryd.ntmps35
    go_wp2_with fail
    refine GA.out.mono ?_
    rintro e w1 ⟨rfl, hb1⟩
    go_wp2
    go_ret2
    exact ⟨_, rfl, World.ownsRow_nil _ _ _ _, hb1⟩
  | true =>
    rw [h1] at GA
    cases h2 : goodO lb with
    | false =>
      rw [cmpO_no (fun c => by have := c.2.1; rw [h2] at this; cases this)]
      rw [h2] at GB
      clear ha hb
      go_enter Tryd.func35, Tryd.ntmps35
      go_wp2_with fail
      refine GA.out.mono ?_
      rintro e w1 ⟨rfl, hb1⟩
      go_wp2_with fail
      refine (GB.out _ hb1).mono ?_
      rintro e w2 ⟨rfl, hb2⟩
      go_wp2
      go_ret2
      exact ⟨_, rfl, World.ownsRow_nil _ _ _ _, hb1.trans (hb2.mono hb1.size)⟩
    | true =>
      rw [h2] at GB
      obtain ⟨a60, apk, -, -⟩ := goodO_parts h1
      obtain ⟨b60, bpk, -, -⟩ := goodO_parts h2
      have NA := hide (fun w1 (h : Below w.heap.size w w1) => l3Normal_any (ha.later h) a60 apk)
      have NB := hide (fun w1 (h : Below w.heap.size w w1) => l3Normal_any (hb.later h) b60 bpk)
      have QA := norm_gqs h1
      have QB := norm_gqs h2
      have ltw : 0 < w.heap.size := Nat.lt_of_le_of_lt (Nat.zero_le _) ha.lt
      have M := hide (cmpO_model h1 h2)
      have HQ := hide (And.intro QA QB)
      obtain ⟨Z, hZ⟩ : ∃ Z, cmpO la lb = Z := ⟨_, rfl⟩
      rw [hZ]
      rw [hZ] at M
      clear ha hb h1 h2 QA QB a60 b60 apk bpk hZ
      go_enter Tryd.func35, Tryd.ntmps35
      go_wp2_with fail
      refine GA.out.mono ?_
      rintro e w1 ⟨rfl, hb1⟩
      go_wp2_with fail
      refine (GB.out _ hb1).mono ?_
      rintro e w2 ⟨rfl, hb2⟩
      replace hb2 := hb1.trans (hb2.mono hb1.size)
      clear hb1
      go_wp2_with fail
      refine (NA.out _ hb2).mono ?_
      rintro e w3 ⟨va, rfl, oa, hb3⟩
      obtain ⟨aa', ga', ca', rfl, pa⟩ := own_pin0 oa (by have := hb2.size; have := hb3.size; omega) (gqs_small HQ.out.1.1) (by have := HQ.out.1.2; omega)
      have PA := hide pa
      replace hb3 := hb2.trans (hb3.mono hb2.size)
      clear hb2 oa pa
      go_wp2_with fail
      refine (NB.out _ hb3).mono ?_
      rintro e w4 ⟨vb, rfl, ob, hb4⟩
      obtain ⟨ab', gb', cb', rfl, pb⟩ := own_pin0 ob (by have := hb3.size; have := hb4.size; omega) (gqs_small HQ.out.2.1) (by have := HQ.out.2.2; omega)
      have C := hide (l3Compose_any (PA.out.later hb4) pb HQ.out.1.1 HQ.out.2.1 (by have := HQ.out.1.2; have := HQ.out.2.2; omega))
      replace hb4 := hb3.trans (hb4.mono hb3.size)
      clear hb3 ob pb PA NA NB GA GB
      go_wp2_with fail
      refine C.out.mono ?_
      rintro e w5 ⟨v, ok, rfl, ht, hf, hb5⟩
      replace hb5 := hide (hb4.trans (hb5.mono hb4.size))
      clear C
      cases ok with
      | false =>
        have eZ := M.out.1 (hf rfl)
        subst eZ
        clear ht hf M
        go_wp2
        go_ret2
        exact ⟨_, rfl, World.ownsRow_nil _ _ _ _, hb5.out⟩
      | true =>
        obtain ⟨P, hP, hg, hPl, ow⟩ := ht rfl
        have eZ := M.out.2 P hP hg
        obtain ⟨n1, n2⟩ := normP_small hg (by have := HQ.out.1.2; have := HQ.out.2.2; omega)
        obtain ⟨av, gv, cv, rfl, pv⟩ := own_pin0 ow (by have := hb5.out.size; omega) n1 n2
        have G := hide (goodOpS pv)
        have OW := hide (ow.mono hb4.size)
        clear ht hf M n1 n2 ow pv hP
        cases hx : goodO (normL P) with
        | false =>
          rw [hx] at G eZ
          simp only [Bool.false_eq_true, if_false] at eZ
          subst eZ
          go_wp2_with fail
          refine G.out.mono ?_
          rintro e w6 ⟨rfl, hb6⟩
          go_wp2
          go_ret2
          exact ⟨_, rfl, World.ownsRow_nil _ _ _ _, hb5.out.trans (hb6.mono hb5.out.size)⟩
        | true =>
          rw [hx] at G eZ
          simp only [if_true] at eZ
          subst eZ
          go_wp2_with fail
          refine G.out.mono ?_
          rintro e w6 ⟨rfl, hb6⟩
          go_wp2
          go_ret2
          exact ⟨_, rfl, own_below OW.out hb6, hb5.out.trans (hb6.mono hb5.out.size)⟩
end Go.Proofs.YtkjioadmebkaoabDoor
