/- The model's reader of a change: take, where a part is cut. -/
import Derived.Test.YtknilofnelhgmaaDoorReadM
namespace Go.Proofs.YtknilofnelhgmaaDoor
open Go.RowKit
open Doc1

set_option maxRecDepth 100000 in
set_option maxHeartbeats 8000000 in
theorem take_keep {W : World} {B g : Nat} {p : Pt} {r : List Pt} (h : Rd W B g (p :: r)) (hk : 0 ≤ p.keep ∧ p.keep ≤ 300) (hp : p.put.size ≤ 300) (hd : p.drop.size ≤ 300) (hrl : r.length ≤ 1000) (n : Nat) (hn : 0 < n) (hnp : (n : Int) ≠ psz p) (hnk : (n : Int) < p.keep) :
    Calls Tryd.prog 100 #[.pointer (some ⟨B, 0, none⟩), .int .i64 (n : Int)] W fun e w' => e = .returned (ptV ⟨n, p.put, p.drop⟩) ∧ ∃ g', Rd w' B g' (⟨p.keep - n, p.put, p.drop⟩ :: r) ∧ W.heap.size ≤ g' ∧ W.grownBy w' (some B) := by
  have SZ := hide (tk_size h hk hp hd)
  obtain ⟨o, cap, e1, e2, ⟨c0, c1, c2⟩, -, -⟩ := h.cons
  obtain ⟨u0, hu0, hz0, hz1, hz2⟩ := info_parts Tryd.infoPart
  have hlt := h.lt
  have hne : ((n : Int) == psz p) = false := by rw [beq_eq_false_iff_ne]; exact hnp
  have k0 : 0 < p.keep := by omega
  clear h hnp
  unfold ptV
  simp only
  generalize psz p = m at *
  go_enter Tryd.func100, Tryd.ntmps100
  go_wp2_with fail
  refine SZ.out.mono ?_
  rintro e w3 ⟨rfl, tk⟩
  obtain ⟨o', cap', b0, hcap', -, hall, -⟩ := tk.rd.cons
  have hs3 := tk.sz
  have b0' : (w3.alloc (.cells #[] 38)).cell? ⟨B, 0, none⟩ = some (.slice (some ⟨g, o', none⟩) (r.length + 1) cap') := (World.cell?_of_block (Below.heap_alloc _ _ _ tk.rd.lt.1)).trans b0
  have hall' : Hid (∀ j t, (encP (p :: r))[j]? = some t → (w3.alloc (.cells #[] 38)).cell? ((⟨g, o', none⟩ : Addr).add j) = some t) := hide (fun j t ht => by
    rw [show (⟨g, o', none⟩ : Addr).add j = ⟨g, o' + j, none⟩ by unfold Addr.add; split <;> simp_all]
    exact (World.cell?_of_block (Below.heap_alloc _ _ _ tk.rd.lt.2)).trans (hall j t ht))
  have hel := encP_len (p :: r)
  have hone : Hid (∀ t ∈ encP (p :: r), t.oneCell' = true) := hide (fun t ht => encP_one ht)
  have TK := hide tk
  clear e1 c0 c1 c2 SZ e2 hall tk b0
  go_wp2_with (at_builtin; go_loud (refine wpList_append_own _ rfl _ _ 23 rfl w3.heap.size 38 u0 (.agg #[.int .i64 0, .string ⟨#[]⟩, .string ⟨#[]⟩]) 3 40 Tryd.underlying23 hu0 hz0 hz1 hz2 rfl (by decide) _ _ _ rfl (own_empty w3) ⟨g, o', none⟩ (r.length + 1) cap' (encP (p :: r)) rfl (by rw [hel]; rfl) hall'.out hone.out (by unfold maxLen; omega) (by omega) (by simp) ?_); intro v4 w4 hown4 hgrow4 _; have own4 : POwn w4 w3.heap.size v4 (p :: r) := (by have := hown4; rw [Nat.zero_add, List.nil_append] at this; exact this); obtain ⟨g', cap4, rfl, -, -, -, -, -, -⟩ := own4.shape (by simp); obtain ⟨CT, X1, X2, X3, X4⟩ := cut_all (p1 := ⟨n, p.put, p.drop⟩) (p2 := ⟨p.keep - n, p.put, p.drop⟩) TK.out hlt.1 own4 hgrow4 (f := 0) (by omega) (u := .int .i64 (p.keep - n)) (x := .int .i64 n) rfl rfl; have HX1 := hide X1; have HX2 := hide X2; have HX4 := hide X4; clear X1 X2 X4 own4 hown4 hgrow4; obtain ⟨a0, a1, a2, g0, g1, g2, gf, b0, b1, b2, bf, ⟨s0, cc0⟩, cf, d0, d1, d2, e0, e1, e2, ef⟩ := CT; unfold w8 at HX1 HX2 HX4; simp only at HX1 HX2 HX4 d0 d1 d2)
  (try simp only [Exit.inBlock, Exit.then])
  refine bodyPost_ret (results_cell_row rfl _ _ W.heap.size 38 _ (0, 0) _ rfl HX1.out Tryd.underlying38 rfl Tryd.sizePart) rfl ?_
  exact ⟨rfl, _, HX2.out, X3, HX4.out⟩

set_option maxRecDepth 100000 in
set_option maxHeartbeats 8000000 in
theorem take_put {W : World} {B g : Nat} {p : Pt} {r : List Pt} (h : Rd W B g (p :: r)) (hk : 0 ≤ p.keep ∧ p.keep ≤ 300) (hp : p.put.size ≤ 300) (hd : p.drop.size ≤ 300) (hrl : r.length ≤ 1000) (n : Nat) (hnp : (n : Int) ≠ psz p) (hk0 : p.keep ≤ 0) (hpe : p.put.data.toList ≠ []) (hnk : n ≤ p.put.size) :
    Calls Tryd.prog 100 #[.pointer (some ⟨B, 0, none⟩), .int .i64 (n : Int)] W fun e w' => e = .returned (ptV ⟨p.keep, p.put.extract 0 n, p.drop⟩) ∧ ∃ g', Rd w' B g' (⟨p.keep, p.put.extract n p.put.size, p.drop⟩ :: r) ∧ W.heap.size ≤ g' ∧ W.grownBy w' (some B) := by
  have SZ := hide (tk_size h hk hp hd)
  obtain ⟨o, cap, e1, e2, ⟨c0, c1, c2⟩, -, -⟩ := h.cons
  obtain ⟨u0, hu0, hz0, hz1, hz2⟩ := info_parts Tryd.infoPart
  have hlt := h.lt
  have hne : ((n : Int) == psz p) = false := by rw [beq_eq_false_iff_ne]; exact hnp
  have hk1 : decide (0 < p.keep) = false := decide_eq_false (by omega)
  have e9 := emp_b p.put
  rw [decide_eq_false hpe] at e9
  clear h hnp
  unfold ptV
  simp only
  generalize psz p = m at *
  go_enter Tryd.func100, Tryd.ntmps100
  go_wp2_with fail
  refine SZ.out.mono ?_
  rintro e w3 ⟨rfl, tk⟩
  obtain ⟨o', cap', b0, hcap', -, hall, -⟩ := tk.rd.cons
  have hs3 := tk.sz
  have b0' : (w3.alloc (.cells #[] 38)).cell? ⟨B, 0, none⟩ = some (.slice (some ⟨g, o', none⟩) (r.length + 1) cap') := (World.cell?_of_block (Below.heap_alloc _ _ _ tk.rd.lt.1)).trans b0
  have hall' : Hid (∀ j t, (encP (p :: r))[j]? = some t → (w3.alloc (.cells #[] 38)).cell? ((⟨g, o', none⟩ : Addr).add j) = some t) := hide (fun j t ht => by
    rw [show (⟨g, o', none⟩ : Addr).add j = ⟨g, o' + j, none⟩ by unfold Addr.add; split <;> simp_all]
    exact (World.cell?_of_block (Below.heap_alloc _ _ _ tk.rd.lt.2)).trans (hall j t ht))
  have hel := encP_len (p :: r)
  have hone : Hid (∀ t ∈ encP (p :: r), t.oneCell' = true) := hide (fun t ht => encP_one ht)
  have TK := hide tk
  clear e1 c0 c1 c2 SZ e2 hall tk b0
  go_wp2_with (at_builtin; go_loud (refine wpList_append_own _ rfl _ _ 23 rfl w3.heap.size 38 u0 (.agg #[.int .i64 0, .string ⟨#[]⟩, .string ⟨#[]⟩]) 3 40 Tryd.underlying23 hu0 hz0 hz1 hz2 rfl (by decide) _ _ _ rfl (own_empty w3) ⟨g, o', none⟩ (r.length + 1) cap' (encP (p :: r)) rfl (by rw [hel]; rfl) hall'.out hone.out (by unfold maxLen; omega) (by omega) (by simp) ?_); intro v4 w4 hown4 hgrow4 _; have own4 : POwn w4 w3.heap.size v4 (p :: r) := (by have := hown4; rw [Nat.zero_add, List.nil_append] at this; exact this); obtain ⟨g', cap4, rfl, -, -, -, -, -, -⟩ := own4.shape (by simp); obtain ⟨CT, X1, X2, X3, X4⟩ := cut_all (p1 := ⟨p.keep, p.put.extract 0 n, p.drop⟩) (p2 := ⟨p.keep, p.put.extract n p.put.size, p.drop⟩) TK.out hlt.1 own4 hgrow4 (f := 1) (by omega) (u := .string (p.put.extract n p.put.size)) (x := .string (p.put.extract 0 n)) rfl rfl; have HX1 := hide X1; have HX2 := hide X2; have HX4 := hide X4; clear X1 X2 X4 own4 hown4 hgrow4; obtain ⟨a0, a1, a2, g0, g1, g2, gf, b0, b1, b2, bf, ⟨s0, cc0⟩, cf, d0, d1, d2, e0, e1, e2, ef⟩ := CT; unfold w8 at HX1 HX2 HX4; simp only at HX1 HX2 HX4 d0 d1 d2)
  (try simp only [Exit.inBlock, Exit.then])
  refine bodyPost_ret (results_cell_row rfl _ _ W.heap.size 38 _ (0, 0) _ rfl HX1.out Tryd.underlying38 rfl Tryd.sizePart) rfl ?_
  exact ⟨rfl, _, HX2.out, X3, HX4.out⟩

set_option maxRecDepth 100000 in
set_option maxHeartbeats 8000000 in
theorem take_drop {W : World} {B g : Nat} {p : Pt} {r : List Pt} (h : Rd W B g (p :: r)) (hk : 0 ≤ p.keep ∧ p.keep ≤ 300) (hp : p.put.size ≤ 300) (hd : p.drop.size ≤ 300) (hrl : r.length ≤ 1000) (n : Nat) (hnp : (n : Int) ≠ psz p) (hk0 : p.keep ≤ 0) (hpe : p.put.data.toList = []) (hnk : n ≤ p.drop.size) :
    Calls Tryd.prog 100 #[.pointer (some ⟨B, 0, none⟩), .int .i64 (n : Int)] W fun e w' => e = .returned (ptV ⟨p.keep, p.put, p.drop.extract 0 n⟩) ∧ ∃ g', Rd w' B g' (⟨p.keep, p.put, p.drop.extract n p.drop.size⟩ :: r) ∧ W.heap.size ≤ g' ∧ W.grownBy w' (some B) := by
  have SZ := hide (tk_size h hk hp hd)
  obtain ⟨o, cap, e1, e2, ⟨c0, c1, c2⟩, -, -⟩ := h.cons
  obtain ⟨u0, hu0, hz0, hz1, hz2⟩ := info_parts Tryd.infoPart
  have hlt := h.lt
  have hne : ((n : Int) == psz p) = false := by rw [beq_eq_false_iff_ne]; exact hnp
  have hk1 : decide (0 < p.keep) = false := decide_eq_false (by omega)
  have e9 := emp_b p.put
  rw [decide_eq_true hpe] at e9
  clear h hnp
  unfold ptV
  simp only
  generalize psz p = m at *
  go_enter Tryd.func100, Tryd.ntmps100
  go_wp2_with fail
  refine SZ.out.mono ?_
  rintro e w3 ⟨rfl, tk⟩
  obtain ⟨o', cap', b0, hcap', -, hall, -⟩ := tk.rd.cons
  have hs3 := tk.sz
  have b0' : (w3.alloc (.cells #[] 38)).cell? ⟨B, 0, none⟩ = some (.slice (some ⟨g, o', none⟩) (r.length + 1) cap') := (World.cell?_of_block (Below.heap_alloc _ _ _ tk.rd.lt.1)).trans b0
  have hall' : Hid (∀ j t, (encP (p :: r))[j]? = some t → (w3.alloc (.cells #[] 38)).cell? ((⟨g, o', none⟩ : Addr).add j) = some t) := hide (fun j t ht => by
    rw [show (⟨g, o', none⟩ : Addr).add j = ⟨g, o' + j, none⟩ by unfold Addr.add; split <;> simp_all]
    exact (World.cell?_of_block (Below.heap_alloc _ _ _ tk.rd.lt.2)).trans (hall j t ht))
  have hel := encP_len (p :: r)
  have hone : Hid (∀ t ∈ encP (p :: r), t.oneCell' = true) := hide (fun t ht => encP_one ht)
  have TK := hide tk
  clear e1 c0 c1 c2 SZ e2 hall tk b0
  go_wp2_with (at_builtin; go_loud (refine wpList_append_own _ rfl _ _ 23 rfl w3.heap.size 38 u0 (.agg #[.int .i64 0, .string ⟨#[]⟩, .string ⟨#[]⟩]) 3 40 Tryd.underlying23 hu0 hz0 hz1 hz2 rfl (by decide) _ _ _ rfl (own_empty w3) ⟨g, o', none⟩ (r.length + 1) cap' (encP (p :: r)) rfl (by rw [hel]; rfl) hall'.out hone.out (by unfold maxLen; omega) (by omega) (by simp) ?_); intro v4 w4 hown4 hgrow4 _; have own4 : POwn w4 w3.heap.size v4 (p :: r) := (by have := hown4; rw [Nat.zero_add, List.nil_append] at this; exact this); obtain ⟨g', cap4, rfl, -, -, -, -, -, -⟩ := own4.shape (by simp); obtain ⟨CT, X1, X2, X3, X4⟩ := cut_all (p1 := ⟨p.keep, p.put, p.drop.extract 0 n⟩) (p2 := ⟨p.keep, p.put, p.drop.extract n p.drop.size⟩) TK.out hlt.1 own4 hgrow4 (f := 2) (by omega) (u := .string (p.drop.extract n p.drop.size)) (x := .string (p.drop.extract 0 n)) rfl rfl; have HX1 := hide X1; have HX2 := hide X2; have HX4 := hide X4; clear X1 X2 X4 own4 hown4 hgrow4; obtain ⟨a0, a1, a2, g0, g1, g2, gf, b0, b1, b2, bf, ⟨s0, cc0⟩, cf, d0, d1, d2, e0, e1, e2, ef⟩ := CT; unfold w8 at HX1 HX2 HX4; simp only at HX1 HX2 HX4 d0 d1 d2)
  (try simp only [Exit.inBlock, Exit.then])
  refine bodyPost_ret (results_cell_row rfl _ _ W.heap.size 38 _ (0, 0) _ rfl HX1.out Tryd.underlying38 rfl Tryd.sizePart) rfl ?_
  exact ⟨rfl, _, HX2.out, X3, HX4.out⟩

end Go.Proofs.YtknilofnelhgmaaDoor
