/- The drawing of a change of a text: opOn ends, and tells parts that are small. The drawing of a change of a text: the walk of opOn. -/
import Derived.Test.YtkjioadmebkaoaaDoorCurM
import Derived.Test.YtkjioadmebkaoaaDoorOpSA
import Derived.Test.YtkjioadmebkaoaaDoorOpSM
import Derived.Test.YtkjioadmebkaoaaDoorKeep1
namespace Go.Proofs.YtkjioadmebkaoaaDoor
open Go.RowKit
open Doc1

theorem CurX.grown {g : Nat} {C : Value} {i x : Nat} {w w' : World} {r : Option Nat} (h : CurX g C i x w) (hg : w.grownBy w' r) (hr : r ≠ some g) : CurX g C i x w' := by
  have hlt : g < w.heap.size := World.block_lt_of_cell? w _ h.c0
  have e := hg.block g hlt (fun c => hr c.symm)
  exact ⟨(World.cell?_of_block e).trans h.c0, (World.cell?_of_block e).trans h.c1, (World.cell?_of_block e).trans h.c2, fun j => (World.frozen?_of_block e).trans (h.fz j)⟩
def curI (g : Nat) (w : World) : Nat := match w.cell? ⟨g, 1, none⟩ with
  | some (.int _ i) => i.toNat
  | _ => 0
def curS (g : Nat) (w : World) : Nat := match w.cell? ⟨g, 2, none⟩ with
  | some (.int _ i) => i.toNat
  | _ => 0
theorem CurX.i {g : Nat} {C : Value} {i x : Nat} {w : World} (h : CurX g C i x w) : curI g w = i ∧ curS g w = x := by
  unfold curI curS
  rw [h.c1, h.c2]
  exact ⟨by simp, by simp⟩
/-- A part that is drawn is small. -/
def smP (p : Pt) : Prop := (-1 ≤ p.keep ∧ p.keep ≤ 301) ∧ p.put.size ≤ 300 ∧ p.drop.size ≤ 300
/-- What is drawn on a text: nothing less than nought is kept. -/
def smQ (p : Pt) : Prop := (0 ≤ p.keep ∧ p.keep ≤ 301) ∧ p.put.size ≤ 300 ∧ p.drop.size ≤ 300
theorem smQ_P {p : Pt} (h : smQ p) : smP p := ⟨⟨by have := h.1.1; omega, h.1.2⟩, h.2⟩
/-- Between two rounds. -/
structure OI (g : Nat) (C : Value) (s : ByteArray) (i0 : Nat) (w : World) (at_ i x : Nat) (v : Value) (L : List Pt) (wr : World) : Prop where
  cur : CurX g C i x wr
  gr : w.grownBy wr (some g)
  own : wr.ownsRow w.heap.size 136 3 v L.length (encP L)
  le : at_ ≤ s.size
  sm : ∀ p ∈ L, smQ p
  bd : L.length + (s.size - at_) * 8591983173 + farX (codeLen C) i x ≤ 301 * 8591983173
  ib : i ≤ i0 + 3 * L.length
theorem OI.next {g : Nat} {C : Value} {s : ByteArray} {i0 : Nat} {w : World} {at_ i x : Nat} {v : Value} {L : List Pt} {wr : World} (h : OI g C s i0 w at_ i x v L wr) (hC : codeLen C ≤ 1048576) {n i2 x2 : Nat} {p : Pt} {v' : Value} {wr' : World}
    (hc : CurX g C i2 x2 wr') (hg : w.grownBy wr' (some g)) (ho : wr'.ownsRow w.heap.size 136 3 v' (L.length + 1) (encP L ++ encP [p])) (hn : 0 < n) (hl : at_ + n ≤ s.size) (hp : smQ p) (hi : i2 ≤ i + 3) :
    OI g C s i0 w (at_ + n) i2 x2 v' (L ++ [p]) wr' ∧ (s.size - (at_ + n)) * 8591983173 + farX (codeLen C) i2 x2 < (s.size - at_) * 8591983173 + farX (codeLen C) i x := by
  have hf := far_le (codeLen C) i2 x2
  have hm : (s.size - (at_ + n)) * 8591983173 + 8591983173 ≤ (s.size - at_) * 8591983173 := by
    have : s.size - at_ = (s.size - (at_ + n)) + n := by omega
    rw [this, Nat.add_mul]
    have : 1 * 8591983173 ≤ n * 8591983173 := Nat.mul_le_mul_right _ hn
    omega
  have hb := h.bd
  have hib := h.ib
  refine ⟨⟨hc, hg, by rw [encP_app, List.length_append]; exact ho, hl, fun q hq => ?_, ?_, ?_⟩, by omega⟩
  · rcases List.mem_append.1 hq with c | c
    · exact h.sm q c
    · rw [List.mem_singleton] at c; rw [c]; exact hp
  · rw [List.length_append, List.length_singleton]; omega
  · rw [List.length_append, List.length_singleton]; omega
theorem OI.stay {g : Nat} {C : Value} {s : ByteArray} {i0 : Nat} {w : World} {at_ i x : Nat} {v : Value} {L : List Pt} {wr : World} (h : OI g C s i0 w at_ i x v L wr) {x2 : Nat} {p : Pt} {v' : Value} {wr' : World}
    (hc : CurX g C (i + 3) x2 wr') (hg : w.grownBy wr' (some g)) (ho : wr'.ownsRow w.heap.size 136 3 v' (L.length + 1) (encP L ++ encP [p])) (hp : smQ p) (hx : codeLen C ≤ i → (lT (lT x) / 1099511627776 % 4 = 1 ∧ x2 = lG x)) :
    OI g C s i0 w at_ (i + 3) x2 v' (L ++ [p]) wr' ∧ (s.size - at_) * 8591983173 + farX (codeLen C) (i + 3) x2 < (s.size - at_) * 8591983173 + farX (codeLen C) i x := by
  have hf := far_next (n := codeLen C) (x3 := x2) hx
  have hb := h.bd
  have hib := h.ib
  refine ⟨⟨hc, hg, by rw [encP_app, List.length_append]; exact ho, h.le, fun q hq => ?_, ?_, ?_⟩, by omega⟩
  · rcases List.mem_append.1 hq with c | c
    · exact h.sm q c
    · rw [List.mem_singleton] at c; rw [c]; exact hp
  · rw [List.length_append, List.length_singleton]; omega
  · rw [List.length_append, List.length_singleton]; omega
end Go.Proofs.YtkjioadmebkaoaaDoor

namespace Go.Proofs.YtkjioadmebkaoaaDoor
open Go.RowKit
open Doc1

theorem grown_far {w wr w' : World} {g : Nat} {r : Option Nat} (hg : w.grownBy wr (some g)) (ho : ∀ b, r = some b → w.heap.size ≤ b) (h : wr.grownBy w' r) : w.grownBy w' (some g) :=
  ⟨h.1.trans hg.1, h.2.trans hg.2, h.3.trans hg.3, Nat.le_trans hg.size h.size, fun k hk hne => (h.block k (Nat.lt_of_lt_of_le hk hg.size) (fun c => absurd (ho k c.symm) (by omega))).trans (hg.block k hk hne)⟩
theorem CurX.any {g : Nat} {C : Value} {i x M : Nat} {w : World} (h : CurX g C i x w) (hi : i ≤ M) : CurAt g C M w := ⟨h.c0, ⟨i, x, h.c1, h.c2, by omega, by omega, by omega⟩, h.fz⟩
theorem CurAt.x {g : Nat} {C : Value} {M : Nat} {w : World} (h : CurAt g C M w) : ∃ i x, i ≤ M ∧ CurX g C i x w := by
  obtain ⟨i, x, h1, h2, h3, h4, h5⟩ := h.ex
  obtain ⟨i', rfl⟩ : ∃ i' : Nat, i = i' := ⟨i.toNat, by omega⟩
  obtain ⟨x', rfl⟩ : ∃ x' : Nat, x = x' := ⟨x.toNat, by omega⟩
  exact ⟨i', x', by omega, h.c0, h1, h2, h.fz⟩
theorem CurAt.grown {g : Nat} {C : Value} {M : Nat} {w w' : World} {r : Option Nat} (h : CurAt g C M w) (hg : w.grownBy w' r) (hr : r ≠ some g) : CurAt g C M w' := by
  obtain ⟨i, x, hi, hx⟩ := h.x
  exact (hx.grown hg hr).any hi
def fiveTexts : List ByteArray := [⟨#[120]⟩, ⟨#[121, 121]⟩, ⟨#[65, 47]⟩, ⟨#[110, 101, 119]⟩, ⟨#[66]⟩]
theorem fiveTexts_le : ∀ s ∈ fiveTexts, s.size ≤ 3 := by decide
def endTexts : List ByteArray := [⟨#[101, 110, 100]⟩, ⟨#[46]⟩]
theorem endTexts_le : ∀ s ∈ endTexts, s.size ≤ 3 := by decide
set_option maxRecDepth 100000 in
theorem stay_draw {n j y x1 x2 x3 y2 : Nat} (h1 : n ≤ j → x1 = lT y) (h2 : n ≤ j + 1 → x2 = lT x1 ∧ y2 = x2 / 1099511627776 % 256 % 4) (h3 : n ≤ j + 2 → x3 = lT x2) (hy : y2 = 1) : n ≤ j → (lT (lT y) / 1099511627776 % 4 = 1 ∧ x3 = lG y) := by
  intro h
  have e1 := h1 h
  obtain ⟨e2, hz⟩ := h2 (by omega)
  rw [e1] at e2
  have e3 := h3 (by omega)
  rw [← e2]
  refine ⟨?_, by rw [e3, e2]; rfl⟩
  generalize x2 / 1099511627776 = q at *
  omega

set_option maxRecDepth 100000 in
set_option maxHeartbeats 8000000 in
theorem opOn_q (g : Nat) (C : Value) (M : Nat) (s : ByteArray) (w : World) (hcur0 : CurAt g C M w) (hco : CodeAt g C w) (hC : codeLen C ≤ 1048576) (hi : M ≤ 1000000000000000) (hs : s.size ≤ 300) :
    Calls Tryd.prog 78 #[.pointer (some ⟨g, 0, none⟩), .string s] w fun e w' => ∃ v L, e = .returned v ∧ w'.ownsRow w.heap.size 136 3 v L.length (encP L) ∧ L.length ≤ 2586186935075 ∧ (∀ p ∈ L, smQ p) ∧ CurAt g C (M + 8000000000000) w' ∧ w.grownBy w' (some g) := by
  obtain ⟨u0, hu0, hz0, hz1, hz2⟩ := info_parts Tryd.infoPart
  obtain ⟨i, x, hiM, hcur⟩ := hcur0.x
  clear hcur0
  have hgl : g < w.heap.size := World.block_lt_of_cell? w _ hcur.c0
  have R0 : Hid (OI g C s i w 0 i x (.slice none 0 0) [] w) := hide ⟨hcur, grown_refl _ _, World.ownsRow_nil _ _ _ _, Nat.zero_le _, (fun p hp => by cases hp), by
    have := far_le (codeLen C) i x
    have h2 : s.size * 8591983173 ≤ 300 * 8591983173 := Nat.mul_le_mul_right _ hs
    simp only [List.length_nil, Nat.sub_zero]
    omega, by simp⟩
  have HCO := hide hco
  clear hcur hco
  go_enter Tryd.func78, Tryd.ntmps78
  go_wp2_with fail
  go_loopw [5, 6] (fun v a wr => ∃ k : Nat, a = .int .i64 k ∧ ∃ v0, v0 = v ∧ ∃ j y L, Hid (OI g C s i w k j y v0 L wr)) (fun _ a wr => (s.size - (intOf a).toNat) * 8591983173 + farX (codeLen C) (curI g wr) (curS g wr))
  case atStart => exact ⟨0, rfl, _, rfl, i, x, [], R0⟩
  case round =>
    obtain ⟨k, rfl, v, hv0, j, y, L, HI⟩ := hrel
    subst hv0
    clear R0
    have hle := HI.out.le
    have hbd := HI.out.bd
    have hib := HI.out.ib
    have hLb : L.length ≤ 2586186935073 := by omega
    have hel := encP_len L
    have hgs := HI.out.gr.size
    have hne : v.ownBlock ≠ some g := fun e => by have := (HI.out.own.lt g e).1; omega
    by_cases hlt : k < s.size
    · have P1 := hide (pick_x g C j y 5 wr HI.out.cur (HCO.out.grown HI.out.gr) (by omega) (by omega) (by omega))
      go_wp2_with fail
      refine P1.out.mono ?_
      rintro e w1 ⟨y1, x1, rfl, hy1, hx1, hc1, hg1, he1⟩
      have HG1 := hide (HI.out.gr.trans hg1)
      have HO1 := hide (own_grown HI.out.own hg1 (fun b hb' e => by have := (HI.out.own.lt b hb').1; have := Option.some.inj e; omega))
      have P2 := hide (pick_x g C (j + 1) x1 4 w1 hc1 (HCO.out.grown HG1.out) (by omega) (by omega) (by omega))
      have HE1 := hide he1
      clear P1 hg1 hc1 he1
      by_cases hcl : (s.size : Int) - (k : Int) < 1 + (y1 : Int)
      · skip
        go_wp2_with fail
        refine P2.out.mono ?_
        rintro e w2 ⟨y2, x2, rfl, hy2, hx2, hc2, hg2, he2⟩
        have HG2 := hide (HG1.out.trans hg2)
        have hgs2 := HG2.out.size
        have hown := own_grown HO1.out hg2 (fun b hb' e => by have := (HI.out.own.lt b hb').1; have := Option.some.inj e; omega)
        have HC2 := hide hc2
        have HE2 := hide he2
        clear hc2 hg2 he2 P2
        by_cases h0 : y2 = 0
        · subst h0
          go_wp2_with (at_builtin; go_loud (refine wpList_append_own _ rfl _ _ 45 rfl w.heap.size 136 u0 (.agg #[.int .i64 0, .string ⟨#[]⟩, .string ⟨#[]⟩]) 3 40 Tryd.underlying45 hu0 hz0 hz1 hz2 rfl (by decide) _ _ _ rfl (hown.alloc _) ⟨w2.heap.size, 0, none⟩ 1 1 [.int .i64 0, .string ⟨#[]⟩, .string (s.extract k s.size)] rfl rfl (cell3_at _ _ rfl _ _ _ _) (by intro u hu; simp at hu; rcases hu with rfl | rfl | rfl <;> rfl) (by unfold maxLen; omega) (by omega) (by simp; omega) ?_); intro v3 w3 hown3 hgrow3 _; have HO3 := hide hown3; have HGR3 := hide hgrow3; clear hown3 hgrow3 hown)
          have hc3 := (HC2.out.grown (World.grownBy_alloc w2 _ none) (by simp)).grown HGR3.out hne
          have hg3 := grown_far (HG2.out.trans (World.grownBy_alloc w2 _ (some g))) (fun b e => (HI.out.own.lt b e).1) HGR3.out
          have e3 := hc3.i
          have e4 := HI.out.cur.i
          obtain ⟨A, B⟩ := HI.out.next hC (n := (s.size - k)) (p := ⟨0, ⟨#[]⟩, s.extract k s.size⟩) hc3 hg3 HO3.out (by omega) (by omega) ⟨⟨by show (0 : Int) ≤ 0; omega, by show (0 : Int) ≤ 301; omega⟩, by show (0 : Nat) ≤ 300; omega, by show (s.extract k s.size).size ≤ 300; rw [ByteArray.size_extract]; omega⟩ (by omega)
          have ek0 : k + (s.size - k) = s.size := by omega
          rw [ek0] at A B
          refine ⟨⟨s.size, by go_num, _, rfl, _, _, _, hide A⟩, ?_⟩
          rw [e3.1, e3.2, e4.1, e4.2]
          have ek : ((k : Int) + ((s.size : Int) - (k : Int))).toNat = s.size := by omega
          first | (simpa [intOf, ek] using B) | (simpa [intOf] using B)
        · by_cases h1 : y2 = 1
          · subst h1
            have HOF := hide (of_x g C (j + 1 + 1) x2 3 w2.heap.size 0 5 5 _ (HC2.out.grown (World.grownBy_alloc w2 (.cells (fiveTexts.map Value.string).toArray 9) none) (by simp)) ((HCO.out.grown HG2.out).alloc _) (by omega) (by omega) (texts_new w2 fiveTexts 9 3 fiveTexts_le) (by omega) (by omega) (by omega))
            go_wp2_with fail
            refine HOF.out.mono ?_
            rintro e w4 ⟨t4, x4, rfl, ht4, hx4, hc4, hg4, he4⟩
            have hgb := HG2.out.trans (World.grownBy_alloc w2 (.cells (fiveTexts.map Value.string).toArray 9) (some g))
            have HG4 := hide (hgb.trans hg4)
            have hgs4 := HG4.out.size
            replace hown := own_grown (hown.alloc _) hg4 (fun b hb' e => by have := (HI.out.own.lt b hb').1; have := Option.some.inj e; omega)
            have HC4 := hide hc4
            have HX := hide (stay_draw (n := codeLen C) (fun h => (HE1.out h).1) HE2.out he4 rfl)
            clear HOF hc4 hg4 he4 hgb
            go_wp2_with (at_builtin; go_loud (refine wpList_append_own _ rfl _ _ 45 rfl w.heap.size 136 u0 (.agg #[.int .i64 0, .string ⟨#[]⟩, .string ⟨#[]⟩]) 3 40 Tryd.underlying45 hu0 hz0 hz1 hz2 rfl (by decide) _ _ _ rfl (hown.alloc _) ⟨w4.heap.size, 0, none⟩ 1 1 [.int .i64 0, .string t4, .string ⟨#[]⟩] rfl rfl (cell3_at _ _ rfl _ _ _ _) (by intro u hu; simp at hu; rcases hu with rfl | rfl | rfl <;> rfl) (by unfold maxLen; omega) (by omega) (by simp; omega) ?_); intro v3 w3 hown3 hgrow3 _; have HO3 := hide hown3; have HGR3 := hide hgrow3; clear hown3 hgrow3 hown)
            have hc3 := (HC4.out.grown (World.grownBy_alloc w4 _ none) (by simp)).grown HGR3.out hne
            have hg3 := grown_far (HG4.out.trans (World.grownBy_alloc w4 _ (some g))) (fun b e => (HI.out.own.lt b e).1) HGR3.out
            have e3 := hc3.i
            have e4 := HI.out.cur.i
            obtain ⟨A, B⟩ := HI.out.stay (p := ⟨0, t4, ⟨#[]⟩⟩) hc3 hg3 HO3.out ⟨⟨by show (0 : Int) ≤ 0; omega, by show (0 : Int) ≤ 301; omega⟩, by show t4.size ≤ 300; omega, by show (0 : Nat) ≤ 300; omega⟩ HX.out
            refine ⟨⟨k, rfl, _, rfl, _, _, _, hide A⟩, ?_⟩
            rw [e3.1, e3.2, e4.1, e4.2]
            simpa [intOf] using B
          · have h01 : ¬ (y2 : Int) = 0 := by omega
            have h11 : ¬ (y2 : Int) = 1 := by omega
            have b0 : ((y2 : Int) == 0) = false := by simpa using h01
            have b1 : ((y2 : Int) == 1) = false := by simpa using h11
            go_wp2_with (at_builtin; go_loud (refine wpList_append_own _ rfl _ _ 45 rfl w.heap.size 136 u0 (.agg #[.int .i64 0, .string ⟨#[]⟩, .string ⟨#[]⟩]) 3 40 Tryd.underlying45 hu0 hz0 hz1 hz2 rfl (by decide) _ _ _ rfl (hown.alloc _) ⟨w2.heap.size, 0, none⟩ 1 1 [.int .i64 ((s.size : Int) - (k : Int)), .string ⟨#[]⟩, .string ⟨#[]⟩] rfl rfl (cell3_at _ _ rfl _ _ _ _) (by intro u hu; simp at hu; rcases hu with rfl | rfl | rfl <;> rfl) (by unfold maxLen; omega) (by omega) (by simp; omega) ?_); intro v3 w3 hown3 hgrow3 _; have HO3 := hide hown3; have HGR3 := hide hgrow3; clear hown3 hgrow3 hown)
            have hc3 := (HC2.out.grown (World.grownBy_alloc w2 _ none) (by simp)).grown HGR3.out hne
            have hg3 := grown_far (HG2.out.trans (World.grownBy_alloc w2 _ (some g))) (fun b e => (HI.out.own.lt b e).1) HGR3.out
            have e3 := hc3.i
            have e4 := HI.out.cur.i
            obtain ⟨A, B⟩ := HI.out.next hC (n := (s.size - k)) (p := ⟨(s.size : Int) - (k : Int), ⟨#[]⟩, ⟨#[]⟩⟩) hc3 hg3 HO3.out (by omega) (by omega) ⟨⟨by show (0 : Int) ≤ (s.size : Int) - (k : Int); omega, by show (s.size : Int) - (k : Int) ≤ 301; omega⟩, by show (0 : Nat) ≤ 300; omega, by show (0 : Nat) ≤ 300; omega⟩ (by omega)
            have ek0 : k + (s.size - k) = s.size := by omega
            rw [ek0] at A B
            refine ⟨⟨s.size, by go_num, _, rfl, _, _, _, hide A⟩, ?_⟩
            rw [e3.1, e3.2, e4.1, e4.2]
            have ek : ((k : Int) + ((s.size : Int) - (k : Int))).toNat = s.size := by omega
            first | (simpa [intOf, ek] using B) | (simpa [intOf] using B)
      · replace hcl : 1 + (y1 : Int) ≤ (s.size : Int) - (k : Int) := by omega
        go_wp2_with fail
        refine P2.out.mono ?_
        rintro e w2 ⟨y2, x2, rfl, hy2, hx2, hc2, hg2, he2⟩
        have HG2 := hide (HG1.out.trans hg2)
        have hgs2 := HG2.out.size
        have hown := own_grown HO1.out hg2 (fun b hb' e => by have := (HI.out.own.lt b hb').1; have := Option.some.inj e; omega)
        have HC2 := hide hc2
        have HE2 := hide he2
        clear hc2 hg2 he2 P2
        by_cases h0 : y2 = 0
        · subst h0
          go_wp2_with (at_builtin; go_loud (refine wpList_append_own _ rfl _ _ 45 rfl w.heap.size 136 u0 (.agg #[.int .i64 0, .string ⟨#[]⟩, .string ⟨#[]⟩]) 3 40 Tryd.underlying45 hu0 hz0 hz1 hz2 rfl (by decide) _ _ _ rfl (hown.alloc _) ⟨w2.heap.size, 0, none⟩ 1 1 [.int .i64 0, .string ⟨#[]⟩, .string ((s.extract k (k + (1 + y1))))] rfl rfl (cell3_at _ _ rfl _ _ _ _) (by intro u hu; simp at hu; rcases hu with rfl | rfl | rfl <;> rfl) (by unfold maxLen; omega) (by omega) (by simp; omega) ?_); intro v3 w3 hown3 hgrow3 _; have HO3 := hide hown3; have HGR3 := hide hgrow3; clear hown3 hgrow3 hown)
          have hc3 := (HC2.out.grown (World.grownBy_alloc w2 _ none) (by simp)).grown HGR3.out hne
          have hg3 := grown_far (HG2.out.trans (World.grownBy_alloc w2 _ (some g))) (fun b e => (HI.out.own.lt b e).1) HGR3.out
          have e3 := hc3.i
          have e4 := HI.out.cur.i
          obtain ⟨A, B⟩ := HI.out.next hC (n := (1 + y1)) (p := ⟨0, ⟨#[]⟩, (s.extract k (k + (1 + y1)))⟩) hc3 hg3 HO3.out (by omega) (by omega) ⟨⟨by show (0 : Int) ≤ 0; omega, by show (0 : Int) ≤ 301; omega⟩, by show (0 : Nat) ≤ 300; omega, by show ((s.extract k (k + (1 + y1)))).size ≤ 300; rw [ByteArray.size_extract]; omega⟩ (by omega)
          have ek0 : k + (1 + y1) = k + (1 + y1) := by omega
          rw [ek0] at A B
          refine ⟨⟨k + (1 + y1), by go_num, _, rfl, _, _, _, hide A⟩, ?_⟩
          rw [e3.1, e3.2, e4.1, e4.2]
          have ek : ((k : Int) + (1 + (y1 : Int))).toNat = k + (1 + y1) := by omega
          first | (simpa [intOf, ek] using B) | (simpa [intOf] using B)
        · by_cases h1 : y2 = 1
          · subst h1
            have HOF := hide (of_x g C (j + 1 + 1) x2 3 w2.heap.size 0 5 5 _ (HC2.out.grown (World.grownBy_alloc w2 (.cells (fiveTexts.map Value.string).toArray 9) none) (by simp)) ((HCO.out.grown HG2.out).alloc _) (by omega) (by omega) (texts_new w2 fiveTexts 9 3 fiveTexts_le) (by omega) (by omega) (by omega))
            go_wp2_with fail
            refine HOF.out.mono ?_
            rintro e w4 ⟨t4, x4, rfl, ht4, hx4, hc4, hg4, he4⟩
            have hgb := HG2.out.trans (World.grownBy_alloc w2 (.cells (fiveTexts.map Value.string).toArray 9) (some g))
            have HG4 := hide (hgb.trans hg4)
            have hgs4 := HG4.out.size
            replace hown := own_grown (hown.alloc _) hg4 (fun b hb' e => by have := (HI.out.own.lt b hb').1; have := Option.some.inj e; omega)
            have HC4 := hide hc4
            have HX := hide (stay_draw (n := codeLen C) (fun h => (HE1.out h).1) HE2.out he4 rfl)
            clear HOF hc4 hg4 he4 hgb
            go_wp2_with (at_builtin; go_loud (refine wpList_append_own _ rfl _ _ 45 rfl w.heap.size 136 u0 (.agg #[.int .i64 0, .string ⟨#[]⟩, .string ⟨#[]⟩]) 3 40 Tryd.underlying45 hu0 hz0 hz1 hz2 rfl (by decide) _ _ _ rfl (hown.alloc _) ⟨w4.heap.size, 0, none⟩ 1 1 [.int .i64 0, .string t4, .string ⟨#[]⟩] rfl rfl (cell3_at _ _ rfl _ _ _ _) (by intro u hu; simp at hu; rcases hu with rfl | rfl | rfl <;> rfl) (by unfold maxLen; omega) (by omega) (by simp; omega) ?_); intro v3 w3 hown3 hgrow3 _; have HO3 := hide hown3; have HGR3 := hide hgrow3; clear hown3 hgrow3 hown)
            have hc3 := (HC4.out.grown (World.grownBy_alloc w4 _ none) (by simp)).grown HGR3.out hne
            have hg3 := grown_far (HG4.out.trans (World.grownBy_alloc w4 _ (some g))) (fun b e => (HI.out.own.lt b e).1) HGR3.out
            have e3 := hc3.i
            have e4 := HI.out.cur.i
            obtain ⟨A, B⟩ := HI.out.stay (p := ⟨0, t4, ⟨#[]⟩⟩) hc3 hg3 HO3.out ⟨⟨by show (0 : Int) ≤ 0; omega, by show (0 : Int) ≤ 301; omega⟩, by show t4.size ≤ 300; omega, by show (0 : Nat) ≤ 300; omega⟩ HX.out
            refine ⟨⟨k, rfl, _, rfl, _, _, _, hide A⟩, ?_⟩
            rw [e3.1, e3.2, e4.1, e4.2]
            simpa [intOf] using B
          · have h01 : ¬ (y2 : Int) = 0 := by omega
            have h11 : ¬ (y2 : Int) = 1 := by omega
            have b0 : ((y2 : Int) == 0) = false := by simpa using h01
            have b1 : ((y2 : Int) == 1) = false := by simpa using h11
            go_wp2_with (at_builtin; go_loud (refine wpList_append_own _ rfl _ _ 45 rfl w.heap.size 136 u0 (.agg #[.int .i64 0, .string ⟨#[]⟩, .string ⟨#[]⟩]) 3 40 Tryd.underlying45 hu0 hz0 hz1 hz2 rfl (by decide) _ _ _ rfl (hown.alloc _) ⟨w2.heap.size, 0, none⟩ 1 1 [.int .i64 (1 + (y1 : Int)), .string ⟨#[]⟩, .string ⟨#[]⟩] rfl rfl (cell3_at _ _ rfl _ _ _ _) (by intro u hu; simp at hu; rcases hu with rfl | rfl | rfl <;> rfl) (by unfold maxLen; omega) (by omega) (by simp; omega) ?_); intro v3 w3 hown3 hgrow3 _; have HO3 := hide hown3; have HGR3 := hide hgrow3; clear hown3 hgrow3 hown)
            have hc3 := (HC2.out.grown (World.grownBy_alloc w2 _ none) (by simp)).grown HGR3.out hne
            have hg3 := grown_far (HG2.out.trans (World.grownBy_alloc w2 _ (some g))) (fun b e => (HI.out.own.lt b e).1) HGR3.out
            have e3 := hc3.i
            have e4 := HI.out.cur.i
            obtain ⟨A, B⟩ := HI.out.next hC (n := (1 + y1)) (p := ⟨1 + (y1 : Int), ⟨#[]⟩, ⟨#[]⟩⟩) hc3 hg3 HO3.out (by omega) (by omega) ⟨⟨by show (0 : Int) ≤ 1 + (y1 : Int); omega, by show 1 + (y1 : Int) ≤ 301; omega⟩, by show (0 : Nat) ≤ 300; omega, by show (0 : Nat) ≤ 300; omega⟩ (by omega)
            have ek0 : k + (1 + y1) = k + (1 + y1) := by omega
            rw [ek0] at A B
            refine ⟨⟨k + (1 + y1), by go_num, _, rfl, _, _, _, hide A⟩, ?_⟩
            rw [e3.1, e3.2, e4.1, e4.2]
            have ek : ((k : Int) + (1 + (y1 : Int))).toNat = k + (1 + y1) := by omega
            first | (simpa [intOf, ek] using B) | (simpa [intOf] using B)
    · obtain rfl : k = s.size := by omega
      have HONE := hide (one_any g C (M + 3 * L.length) 3 wr (HI.out.cur.any (by omega)) (HCO.out.grown HI.out.gr) (by omega))
      go_wp2_with fail
      refine HONE.out.mono ?_
      rintro e w1 ⟨b, rfl, hc1, hg1⟩
      have HG1 := hide (HI.out.gr.trans hg1)
      have hgs1 := HG1.out.size
      have hown := own_grown HI.out.own hg1 (fun b hb' e => by have := (HI.out.own.lt b hb').1; have := Option.some.inj e; omega)
      have HC1 := hide hc1
      clear hc1 hg1 HONE
      cases b with
      | true =>
        have HOF := hide (of_any g C _ 3 w1.heap.size 0 2 2 _ (HC1.out.alloc (.cells (endTexts.map Value.string).toArray 9)) ((HCO.out.grown HG1.out).alloc _) (by omega) (by omega) (texts_new w1 endTexts 9 3 endTexts_le) (by omega) (by omega) (by omega))
        go_wp2_with fail
        refine HOF.out.mono ?_
        rintro e w4 ⟨t4, rfl, ht4, hc4, hg4⟩
        have hgb := HG1.out.trans (World.grownBy_alloc w1 (.cells (endTexts.map Value.string).toArray 9) (some g))
        have HG4 := hide (hgb.trans hg4)
        have hgs4 := HG4.out.size
        replace hown := own_grown (hown.alloc _) hg4 (fun b hb' e => by have := (HI.out.own.lt b hb').1; have := Option.some.inj e; omega)
        have HC4 := hide hc4
        clear HOF hc4 hg4 hgb
        go_wp2_with (at_builtin; go_loud (refine wpList_append_own _ rfl _ _ 45 rfl w.heap.size 136 u0 (.agg #[.int .i64 0, .string ⟨#[]⟩, .string ⟨#[]⟩]) 3 40 Tryd.underlying45 hu0 hz0 hz1 hz2 rfl (by decide) _ _ _ rfl (hown.alloc _) ⟨w4.heap.size, 0, none⟩ 1 1 [.int .i64 0, .string t4, .string ⟨#[]⟩] rfl rfl (cell3_at _ _ rfl _ _ _ _) (by intro u hu; simp at hu; rcases hu with rfl | rfl | rfl <;> rfl) (by unfold maxLen; omega) (by omega) (by simp; omega) ?_); intro v3 w3 hown3 hgrow3 _; have HO3 := hide hown3; have HGR3 := hide hgrow3; clear hown3 hgrow3 hown)
        go_ret
        have hc3 := (HC4.out.alloc _).grown HGR3.out hne
        have hg3 := grown_far (HG4.out.trans (World.grownBy_alloc w4 _ (some g))) (fun b e => (HI.out.own.lt b e).1) HGR3.out
        refine ⟨v3, L ++ [⟨0, t4, ⟨#[]⟩⟩], rfl, by rw [encP_app, List.length_append]; exact HO3.out, by simp; omega, fun p hp => ?_, hc3.mono (by omega), hg3⟩
        rcases List.mem_append.1 hp with c | c
        · exact HI.out.sm p c
        · rw [List.mem_singleton] at c; rw [c]; exact ⟨⟨by show (0 : Int) ≤ 0; omega, by show (0 : Int) ≤ 301; omega⟩, by show t4.size ≤ 300; omega, by show (0 : Nat) ≤ 300; omega⟩
      | false =>
        go_wp2
        go_ret
        exact ⟨v, L, rfl, hown, by omega, HI.out.sm, HC1.out.mono (by omega), HG1.out⟩

theorem opOn_any (g : Nat) (C : Value) (M : Nat) (s : ByteArray) (w : World) (hcur0 : CurAt g C M w) (hco : CodeAt g C w) (hC : codeLen C ≤ 1048576) (hi : M ≤ 1000000000000000) (hs : s.size ≤ 300) :
    Calls Tryd.prog 78 #[.pointer (some ⟨g, 0, none⟩), .string s] w fun e w' => ∃ v L, e = .returned v ∧ w'.ownsRow w.heap.size 136 3 v L.length (encP L) ∧ L.length ≤ 2586186935075 ∧ (∀ p ∈ L, smP p) ∧ CurAt g C (M + 8000000000000) w' ∧ w.grownBy w' (some g) :=
  (opOn_q g C M s w hcur0 hco hC hi hs).mono (fun _ _ ⟨v, L, h1, h2, h3, h4, h5⟩ => ⟨v, L, h1, h2, h3, fun p hp => smQ_P (h4 p hp), h5⟩)
end Go.Proofs.YtkjioadmebkaoaaDoor
