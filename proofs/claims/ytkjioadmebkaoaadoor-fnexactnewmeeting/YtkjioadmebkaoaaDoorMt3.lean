/- NewMeeting of both. -/
import Derived.Test.YtkjioadmebkaoaaDoorMt2
import Derived.Test.YtkjioadmebkaoaaDoorFrm
import Derived.Deep.RegionHeldLaw
set_option linter.unusedVariables false
namespace Go.Proofs.YtkjioadmebkaoaaDoor
open Go.RowKit
open Doc1

theorem Tryd.sizeMeeting : (Tryd.prog.info? 82).map (·.size) = some 4 := by kernel_rfl
theorem Tryd.infoCl : (Tryd.prog.info? 178).map (fun i => (i.zero, i.size, i.bytes)) = some (some (.agg #[.int .i64 0, .string ⟨#[]⟩, .int .i64 0, .int .i64 0, .bool false, .slice none 0 0, .slice none 0 0, .bool false]), 8, 104) := by kernel_rfl
def encN (s : ByteArray) : Nat → List Value
  | 0 => []
  | k + 1 => encN s k ++ [.int .i64 (k : Int), .string s, .int .i64 0, .int .i64 0, .bool false, .slice none 0 0, .slice none 0 0, .bool false]
theorem encN_len (s : ByteArray) : ∀ n, (encN s n).length = n * 8
  | 0 => rfl
  | n + 1 => by rw [encN, List.length_append, encN_len s n]; simp; omega
theorem encN_at (s : ByteArray) : ∀ n j, j < n * 8 → (encN s n)[j]? = some (oN s j)
  | 0, j, h => by omega
  | n + 1, j, h => by
    rw [encN]
    by_cases c : j < n * 8
    · rw [List.getElem?_append_left (by rw [encN_len]; exact c)]
      exact encN_at s n j c
    · rw [List.getElem?_append_right (by rw [encN_len]; omega), encN_len]
      obtain ⟨r, hr, rfl⟩ : ∃ r, r < 8 ∧ j = n * 8 + r := ⟨j - n * 8, by omega, by omega⟩
      obtain ⟨o0, o1, o2, o3, o4, o5, o6, o7⟩ := oN_at s n
      have e : n * 8 + r - n * 8 = r := by omega
      rw [e]
      have hr' : r = 0 ∨ r = 1 ∨ r = 2 ∨ r = 3 ∨ r = 4 ∨ r = 5 ∨ r = 6 ∨ r = 7 := by omega
      rcases hr' with rfl | rfl | rfl | rfl | rfl | rfl | rfl | rfl
      · rw [Nat.add_zero, o0]; rfl
      · rw [o1]; rfl
      · rw [o2]; rfl
      · rw [o3]; rfl
      · rw [o4]; rfl
      · rw [o5]; rfl
      · rw [o6]; rfl
      · rw [o7]; rfl
theorem nc_nr {w : World} {B : Nat} {v : Value} {s : ByteArray} {n : Nat} (h : w.ownsRow B 178 8 v n (encN s n)) : NR B w.heap.size w v s n := by
  rcases Nat.eq_zero_or_pos n with h0 | h0
  · subst h0
    obtain ⟨a, c, e, -, -⟩ := own_shp h
    exact .inl ⟨rfl, a, c, e⟩
  · obtain ⟨g, cap, rfl, h1, h2, h3, h4, h5, h6⟩ := own_cat h h0
    exact .inr ⟨g, cap, rfl, h0, h1, h2, h3, h4, h4, h6.fz, fun j hj => h5 j _ (encN_at s n j hj)⟩
theorem CB.put4 {w : World} {b : Nat} {x0 x1 x2 x3 : Value} (h : CB w b #[x0, x1, x2, x3]) (y0 y1 y2 y3 : Value) :
    CB ((((w.setCell ⟨b, 0, none⟩ y0).setCell ⟨b, 1, none⟩ y1).setCell ⟨b, 2, none⟩ y2).setCell ⟨b, 3, none⟩ y3) b #[y0, y1, y2, y3] := by
  have h0 : CB _ b #[y0, x1, x2, x3] := h.set 0 y0 rfl
  have h1 : CB _ b #[y0, y1, x2, x3] := h0.set 1 y1 rfl
  have h2 : CB _ b #[y0, y1, y2, x3] := h1.set 2 y2 rfl
  exact h2.set 3 y3 rfl
theorem put4_below {B : Nat} {w w1 : World} {b : Nat} (h : Below B w w1) (hb : B ≤ b) (y0 y1 y2 y3 : Value) : Below B w ((((w1.setCell ⟨b, 0, none⟩ y0).setCell ⟨b, 1, none⟩ y1).setCell ⟨b, 2, none⟩ y2).setCell ⟨b, 3, none⟩ y3) :=
  (((h.setCell (p := ⟨b, 0, none⟩) hb y0).setCell (p := ⟨b, 1, none⟩) hb y1).setCell (p := ⟨b, 2, none⟩) hb y2).setCell (p := ⟨b, 3, none⟩) hb y3
theorem CB.growN {w w2 : World} {o : Obj} {r : Option Nat} {c : Nat} {cs : Array Value} (h : CB w c cs) (hg : (w.alloc o).grownBy w2 r) (hr : r ≠ some c) : CB w2 c cs :=
  h.block ((hg.block c (by have := h.lt; simp; omega) (Ne.symm hr)).trans (Below.heap_alloc w o c h.lt))
theorem below_growN {B : Nat} {w w1 w2 : World} {o : Obj} {r : Option Nat} (h : Below B w w1) (hB : B ≤ w1.heap.size) (hg : (w1.alloc o).grownBy w2 r) (hr : ∀ y, r = some y → B ≤ y) : Below B w w2 :=
  (h.alloc hB o).grown hg (by simp; omega) hr
theorem nr_put {lo hi : Nat} {w w1 : World} {v : Value} {s : ByteArray} {n : Nat} (h : NR lo hi w v s n) (hs : w.heap.size ≤ w1.heap.size) (he : ∀ y, lo ≤ y → y < hi → w1.heap[y]? = w.heap[y]?) : NR lo hi w1 v s n :=
  h.imp id (fun ⟨g, c, e, h0, h1, h2, h3, h4, h5⟩ => ⟨g, c, e, h0, h1, h2, h3, h4, h5.block hs (he g h3 h4)⟩)
theorem NR.wide {lo hi lo' hi' : Nat} {w : World} {v : Value} {s : ByteArray} {n : Nat} (h : NR lo hi w v s n) (h1 : lo' ≤ lo) (h2 : hi ≤ hi') : NR lo' hi' w v s n :=
  h.imp id (fun ⟨g, c, e, h0, k1, k2, h3, h4, h5⟩ => ⟨g, c, e, h0, k1, k2, by omega, by omega, h5⟩)

theorem ent_clone (a : Array Value) (w : World) : (callFunc 119 a).run Tryd.prog w = .ok (.enter 119 a) w := by kernel_rfl
theorem step_clone {w : World} {ops : Array Oper} {o : Oper} {a : Act} {K : Act → World → Prop} {Q : Exit → Act → World → Prop} {E : Prop} (hgd : o.guard = none) (x : Operand) (tx : TypeId)
    (ho : o.op = .call { callee := .value (.func 119), args := #[x], argTypes := #[tx] }) (s : ByteArray) (hs : s.size ≤ 1048576) (hx : a.eval x = .string s) (h : ∀ w', Below w.heap.size w w' → K (a.put o.dst (.string s)) w') :
    if Region.wanted o (yielded ops a.tmps) = true then Oper.wp Tryd.prog o a w K Q else E := by
  have hw : Region.wanted o (yielded ops a.tmps) = true := by simp [Region.wanted, hgd]
  rw [if_pos hw]
  have hm := ent_clone
  unfold Oper.wp execOp
  simp only [ho, resolve, invoke, hx, Sem.run_bind, List.map_toArray, List.map_cons, List.map_nil]
  simp [go_sem, hm]
  refine (strClone_any s w hs).mono ?_
  rintro e w' ⟨rfl, hR⟩
  exact h w' hR

def nmB (c : Int) (s : ByteArray) : Bool := good s.data.toList && decide (1 ≤ c ∧ c ≤ 4)
def nmT (c : Int) (s : ByteArray) : ByteArray := if nmB c s then s else ⟨#[]⟩
def nmN (c : Int) (s : ByteArray) : Nat := if nmB c s then c.toNat else 0
/-- What NewMeeting tells. -/
def NwPost (w : World) (T : ByteArray) (n : Nat) (b : Bool) (e : Ending) (w' : World) : Prop := ∃ ax cx a k, e = .returned (.tuple #[.agg #[.string T, .string T, .slice ax 0 cx, .slice a n k], .bool b]) ∧ NR w.heap.size w'.heap.size w' (.slice a n k) T n ∧ Below w.heap.size w w'

/-- While the clients are put down. -/
def MI (w : World) (b : Nat) (s : ByteArray) (ax : Option Addr) (cx k : Nat) (wr : World) : Prop := ∃ a c, CB wr b #[.string s, .string s, .slice ax 0 cx, .slice a k c] ∧ wr.ownsRow (b + 1) 178 8 (.slice a k c) k (encN s k) ∧ CB wr w.heap.size #[.string ⟨#[]⟩, .string ⟨#[]⟩, .slice none 0 0, .slice none 0 0] ∧ Below w.heap.size w wr
theorem MI.step {w : World} {b : Nat} {s : ByteArray} {ax : Option Addr} {cx k : Nat} {wr w5 w9 : World} {o : Obj} {a : Option Addr} {c : Nat} {g9 cap9 : Option Addr × Nat} (hb : w.heap.size < b) (h1 : CB wr b #[.string s, .string s, .slice ax 0 cx, .slice a k c]) (h2 : wr.ownsRow (b + 1) 178 8 (.slice a k c) k (encN s k)) (h3 : CB wr w.heap.size #[.string ⟨#[]⟩, .string ⟨#[]⟩, .slice none 0 0, .slice none 0 0]) (h4 : Below w.heap.size w wr)
    (h5 : Below wr.heap.size wr w5) (hg : (w5.alloc o).grownBy w9 (Value.slice a k c).ownBlock) (ho : w9.ownsRow (b + 1) 178 8 (.slice g9.1 (k + 1) cap9.2) (k + 1) (encN s k ++ [.int .i64 (k : Int), .string s, .int .i64 0, .int .i64 0, .bool false, .slice none 0 0, .slice none 0 0, .bool false])) :
    (w9.cell? ⟨b, 3, none⟩ = some (.slice a k c) ∧ w9.frozen? ⟨b, 3, none⟩ = false) ∧ MI w b s ax cx (k + 1) (w9.setCell ⟨b, 3, none⟩ (.slice g9.1 (k + 1) cap9.2)) := by
  have hne : ∀ y, (Value.slice a k c).ownBlock = some y → b + 1 ≤ y := fun y hy => (World.ownsRow.lt h2 y hy).1
  have q1 := (h1.later h5).growN hg (fun e => by have := hne b e; omega)
  have q3 := (h3.later h5).growN hg (fun e => by have := hne w.heap.size e; omega)
  have hB : w.heap.size ≤ w5.heap.size := Nat.le_trans h4.size h5.size
  have q4 := below_growN (h4.trans (h5.mono h4.size)) hB hg (fun y hy => by have := hne y hy; omega)
  refine ⟨⟨q1.cell 3 rfl, q1.fz 3⟩, g9.1, cap9.2, q1.set 3 _ rfl, own_aside ho (by omega) _ _, q3.other (by omega) 3 _, q4.setCell (by show w.heap.size ≤ b; omega) _⟩

set_option maxRecDepth 100000 in
set_option maxHeartbeats 8000000 in
theorem newMeetingS (c : Int) (s : ByteArray) (w : World) (hs : s.size ≤ 1048576) :
    Calls Tryd.prog 46 #[.int .i64 c, .string s] w (NwPost w (nmT c s) (nmN c s) (nmB c s)) := by
  obtain ⟨u0, hu0, hz0, hz1, hz2⟩ := info_parts Tryd.infoCl
  obtain ⟨w1, hw1⟩ : ∃ w1, w1 = w.alloc (.cells #[.string ⟨#[]⟩, .string ⟨#[]⟩, .slice none 0 0, .slice none 0 0] 82) := ⟨_, rfl⟩
  have hb1 : Below w.heap.size w w1 := by rw [hw1]; exact (Below.refl _ _).alloc (Nat.le_refl _) _
  have X1 : Hid (CB w1 w.heap.size #[.string ⟨#[]⟩, .string ⟨#[]⟩, .slice none 0 0, .slice none 0 0]) := hide (by rw [hw1]; exact CB.new _ _ _)
  have hs1 : w1.heap.size = w.heap.size + 1 := by rw [hw1]; simp
  have NS := hide (newSvS s w1 hs)
  have B1 := hide hb1
  have J := hide (fun n lo hi w => l1In_any n lo hi w)
  have HN : Hid (nmB c s = false → nmT c s = ⟨#[]⟩ ∧ nmN c s = 0) := hide (fun e => by unfold nmT nmN; rw [e]; exact ⟨rfl, rfl⟩)
  have HY : Hid (nmB c s = true → nmT c s = s ∧ nmN c s = c.toNat) := hide (fun e => by unfold nmT nmN; rw [e]; exact ⟨rfl, rfl⟩)
  have HQ : Hid (nmB c s = (good s.data.toList && decide (1 ≤ c ∧ c ≤ 4))) := hide rfl
  obtain ⟨NB, hNB⟩ : ∃ x, nmB c s = x := ⟨_, rfl⟩
  obtain ⟨NT, hNT⟩ : ∃ x, nmT c s = x := ⟨_, rfl⟩
  obtain ⟨NN, hNN⟩ : ∃ x, nmN c s = x := ⟨_, rfl⟩
  rw [hNB, hNT, hNN]
  rw [hNB] at HN HY HQ
  rw [hNT, hNN] at HN HY
  clear hb1 hNB hNT hNN
  unfold NwPost
  go_enter Tryd.func46, Tryd.ntmps46
  go_wp2_with fail
  rw [← hw1]
  clear hw1
  refine NS.out.mono ?_
  rintro e w2 ⟨x, rfl, ⟨S0, hx, -⟩, hb2⟩
  obtain ⟨ax, cx, rfl⟩ := hx.shp
  have hL : (nsL s).length = 0 := rfl
  rw [hL]
  clear hx hL
  have X2 := hide (X1.out.later hb2)
  have B2 : Hid (Below w.heap.size w w2) := hide (B1.out.trans (hb2.mono B1.out.size))
  have hs2 : w.heap.size + 1 ≤ w2.heap.size := by have := hb2.size; omega
  obtain ⟨w3, hw3⟩ : ∃ w3, w3 = w2.alloc (.cells #[.string (nsS s), .string (nsT s), .slice ax 0 cx] 79) := ⟨_, rfl⟩
  have hb3 : Below w2.heap.size w2 w3 := by rw [hw3]; exact (Below.refl _ _).alloc (Nat.le_refl _) _
  have X3 := hide (X2.out.later hb3)
  have B3 : Hid (Below w.heap.size w w3) := hide (B2.out.trans (hb3.mono B2.out.size))
  have hs3 : w3.heap.size = w2.heap.size + 1 := by rw [hw3]; simp
  have Y3 : Hid (CB w3 w2.heap.size #[.string (nsS s), .string (nsT s), .slice ax 0 cx]) := hide (by rw [hw3]; exact CB.new _ _ _)
  obtain ⟨gd, hgd⟩ : ∃ b, good s.data.toList = b := ⟨_, rfl⟩
  rw [hgd] at HQ ⊢
  have HG := hide hgd
  clear hb2 hb3 NS X1 B1 X2 B2 hgd hs1
  cases gd with
  | false =>
    obtain rfl : NB = false := by rw [HQ.out]; rfl
    obtain ⟨rfl, rfl⟩ := HN.out rfl
    have f0 := X3.out.fz 0
    have f1 := X3.out.fz 1
    have f2 := X3.out.fz 2
    have f3 := X3.out.fz 3
    have m0 : w3.cell? ⟨w.heap.size, 0, none⟩ = some (.string ⟨#[]⟩) := X3.out.cell 0 rfl
    have m1 : w3.cell? ⟨w.heap.size, 1, none⟩ = some (.string ⟨#[]⟩) := X3.out.cell 1 rfl
    have m2 : w3.cell? ⟨w.heap.size, 2, none⟩ = some (.slice none 0 0) := X3.out.cell 2 rfl
    have m3 : w3.cell? ⟨w.heap.size, 3, none⟩ = some (.slice none 0 0) := X3.out.cell 3 rfl
    rw [hw3] at f0 f1 f2 f3 m0 m1 m2 m3
    have HL := hide (X3.out.put4 (.string ⟨#[]⟩) (.string ⟨#[]⟩) (.slice none 0 0) (.slice none 0 0))
    have HB := hide (put4_below B3.out (Nat.le_refl w.heap.size) (.string ⟨#[]⟩) (.string ⟨#[]⟩) (.slice none 0 0) (.slice none 0 0))
    rw [hw3] at HL HB
    clear X3 B3 Y3 HN HY HQ HG hw3
    go_wp2
    obtain ⟨tt, htt⟩ := HL.out
    refine bodyPost_ret (results_cell_tmp rfl _ _ w.heap.size tt _ (0, 0) _ (.bool false) rfl rfl htt Tryd.underlying82 rfl Tryd.sizeMeeting) rfl ?_
    exact ⟨none, 0, none, 0, rfl, .inl ⟨rfl, none, 0, rfl⟩, HB.out⟩
  | true =>
    have hSS : nsS s = s ∧ nsT s = s := by unfold nsS nsT; rw [if_pos HG.out]; exact ⟨rfl, rfl⟩
    rw [hSS.1, hSS.2] at Y3 hw3 ⊢
    clear hSS
    by_cases hc : 1 ≤ c ∧ c ≤ 4
    · obtain rfl : NB = true := by rw [HQ.out, decide_eq_true hc]; rfl
      obtain ⟨n, rfl⟩ : ∃ n : Nat, c = (n : Int) := ⟨c.toNat, by omega⟩
      obtain ⟨e1, e2⟩ := HY.out rfl
      rw [Int.toNat_natCast] at e2
      replace e1 := e1.symm
      replace e2 := e2.symm
      subst e1
      subst e2
      have hn4 : n ≤ 4 := by omega
      have hn1 : 1 ≤ n := by omega
      have E1 : Hid (decide ((1 : Int) ≤ (n : Int) ∧ (n : Int) ≤ 4) = true) := hide (decide_eq_true hc)
      obtain ⟨w4, hw4⟩ : ∃ w4, w4 = w3.alloc (.cells #[.string s, .string s, .slice ax 0 cx, .slice none 0 0] 82) := ⟨_, rfl⟩
      have hb4 : Below w3.heap.size w3 w4 := by rw [hw4]; exact (Below.refl _ _).alloc (Nat.le_refl _) _
      have I0 : Hid (MI w w3.heap.size s ax cx 0 w4) := hide ⟨none, 0, by rw [hw4]; exact CB.new _ _ _, World.ownsRow_nil _ _ _ _, X3.out.later hb4, B3.out.trans (hb4.mono B3.out.size)⟩
      have y0 : w3.cell? ⟨w2.heap.size, 0, none⟩ = some (.string s) := Y3.out.cell 0 rfl
      have y1 : w3.cell? ⟨w2.heap.size, 1, none⟩ = some (.string s) := Y3.out.cell 1 rfl
      have y2 : w3.cell? ⟨w2.heap.size, 2, none⟩ = some (.slice ax 0 cx) := Y3.out.cell 2 rfl
      rw [hw3] at y0 y1 y2
      obtain ⟨b, hbe⟩ : ∃ b, b = w3.heap.size := ⟨_, rfl⟩
      have hbw : w.heap.size < b := by omega
      rw [← hbe] at I0
      have hbs : b = w2.heap.size + 1 := by omega
      clear HN HY HQ HG X3 B3 Y3 hc hb4
      go_wp2_with (go_at_call 73; refine (J.out _ _ _ _).mono ?_; rintro e w' ⟨rfl, hw⟩; replace hw := hw.symm; subst hw; rw [E1.out])
      rw [← hw3, ← hw4]
      rw [← hbs] 
      clear hw3 hw4 hbe hbs hs3 y0 y1 y2
      go_loopw [9] (fun i wr => ∃ k : Nat, k ≤ n ∧ i = .int .i64 k ∧ Hid (MI w b s ax cx k wr)) (fun i _ => n - (intOf i).toNat)
      case atStart => exact ⟨0, by omega, rfl, I0⟩
      case round =>
        obtain ⟨k, hk, rfl, HR⟩ := hrel
        by_cases hlt : k < n
        · obtain ⟨a, cc, h1, h2, h3, h4⟩ := HR.out
          have c3 : wr.cell? ⟨b, 3, none⟩ = some (.slice a k cc) := h1.cell 3 rfl
          have H1 := hide h1
          have H2 := hide h2
          have H3 := hide h3
          have H4 := hide h4
          have hlt1 : b < wr.heap.size := h1.lt
          clear HR h1 h2 h3 h4
          go_wp2_with (at_builtin; refine wpList_append_own _ rfl _ _ 80 rfl (b + 1) 178 u0 (.agg #[.int .i64 0, .string ⟨#[]⟩, .int .i64 0, .int .i64 0, .bool false, .slice none 0 0, .slice none 0 0, .bool false]) 8 104 Tryd.underlying80 hu0 hz0 hz1 hz2 rfl (by decide) _ _ _ rfl (H2.out.alloc _) ⟨wr.heap.size, 0, none⟩ 1 1 [.int .i64 (k : Int), .string s, .int .i64 0, .int .i64 0, .bool false, .slice none 0 0, .slice none 0 0, .bool false] rfl rfl (World.news_of_block (cs := #[.int .i64 (k : Int), .string s, .int .i64 0, .int .i64 0, .bool false, .slice none 0 0, .slice none 0 0, .bool false]) (t := 178) (fr := (0, 0)) (heap_alloc_new wr _)) (by simp [Value.oneCell']) (by unfold maxLen; omega) (by omega) (by simp; omega) ?_; intro v3 w5 hown3 hgrow3 _; obtain ⟨a5, c5, rfl, -, -⟩ := own_shp hown3; obtain ⟨⟨q1, q2⟩, q3⟩ := MI.step (g9 := (a5, 0)) (cap9 := (none, c5)) hbw H1.out H2.out H3.out H4.out (Below.refl _ _) hgrow3 hown3; have HM := hide q3; clear q3 hown3 hgrow3 c3)
          refine ⟨⟨k + 1, by omega, by go_num, HM⟩, by simp [intOf]; omega⟩
        · obtain rfl : k = n := by omega
          obtain ⟨a, cc, h1, h2, h3, h4⟩ := HR.out
          have y0 : wr.cell? ⟨b, 0, none⟩ = some (.string s) := h1.cell 0 rfl
          have y1 : wr.cell? ⟨b, 1, none⟩ = some (.string s) := h1.cell 1 rfl
          have y2 : wr.cell? ⟨b, 2, none⟩ = some (.slice ax 0 cx) := h1.cell 2 rfl
          have y3 : wr.cell? ⟨b, 3, none⟩ = some (.slice a k cc) := h1.cell 3 rfl
          have f0 := h3.fz 0
          have f1 := h3.fz 1
          have f2 := h3.fz 2
          have f3 := h3.fz 3
          have m0 : wr.cell? ⟨w.heap.size, 0, none⟩ = some (.string ⟨#[]⟩) := h3.cell 0 rfl
          have m1 : wr.cell? ⟨w.heap.size, 1, none⟩ = some (.string ⟨#[]⟩) := h3.cell 1 rfl
          have m2 : wr.cell? ⟨w.heap.size, 2, none⟩ = some (.slice none 0 0) := h3.cell 2 rfl
          have m3 : wr.cell? ⟨w.heap.size, 3, none⟩ = some (.slice none 0 0) := h3.cell 3 rfl
          have HL := hide (h3.put4 (.string s) (.string s) (.slice ax 0 cx) (.slice a k cc))
          have HB := hide (put4_below h4 (Nat.le_refl w.heap.size) (.string s) (.string s) (.slice ax 0 cx) (.slice a k cc))
          have HR2 := hide (nr_put (w1 := (((wr.setCell ⟨w.heap.size, 0, none⟩ (.string s)).setCell ⟨w.heap.size, 1, none⟩ (.string s)).setCell ⟨w.heap.size, 2, none⟩ (.slice ax 0 cx)).setCell ⟨w.heap.size, 3, none⟩ (.slice a k cc)) (nc_nr h2) (by simp [World.setCell]) (fun y hy _ => by
            rw [Below.heap_setCell _ _ _ _ (by show y ≠ w.heap.size; omega), Below.heap_setCell _ _ _ _ (by show y ≠ w.heap.size; omega), Below.heap_setCell _ _ _ _ (by show y ≠ w.heap.size; omega), Below.heap_setCell _ _ _ _ (by show y ≠ w.heap.size; omega)]))
          clear HR h1 h2 h3 h4
          go_wp2
          obtain ⟨tt, htt⟩ := HL.out
          refine bodyPost_ret (results_cell_tmp rfl _ _ w.heap.size tt _ (0, 0) _ (.bool true) rfl rfl htt Tryd.underlying82 rfl Tryd.sizeMeeting) rfl ?_
          exact ⟨ax, cx, a, cc, rfl, HR2.out.wide (by omega) (by simp [World.setCell]), HB.out⟩
    · obtain rfl : NB = false := by rw [HQ.out, decide_eq_false hc]; rfl
      obtain ⟨rfl, rfl⟩ := HN.out rfl
      have E1 : Hid (decide ((1 : Int) ≤ c ∧ c ≤ 4) = false) := hide (decide_eq_false hc)
      have f0 := X3.out.fz 0
      have f1 := X3.out.fz 1
      have f2 := X3.out.fz 2
      have f3 := X3.out.fz 3
      have m0 : w3.cell? ⟨w.heap.size, 0, none⟩ = some (.string ⟨#[]⟩) := X3.out.cell 0 rfl
      have m1 : w3.cell? ⟨w.heap.size, 1, none⟩ = some (.string ⟨#[]⟩) := X3.out.cell 1 rfl
      have m2 : w3.cell? ⟨w.heap.size, 2, none⟩ = some (.slice none 0 0) := X3.out.cell 2 rfl
      have m3 : w3.cell? ⟨w.heap.size, 3, none⟩ = some (.slice none 0 0) := X3.out.cell 3 rfl
      rw [hw3] at f0 f1 f2 f3 m0 m1 m2 m3
      have HL := hide (X3.out.put4 (.string ⟨#[]⟩) (.string ⟨#[]⟩) (.slice none 0 0) (.slice none 0 0))
      have HB := hide (put4_below B3.out (Nat.le_refl w.heap.size) (.string ⟨#[]⟩) (.string ⟨#[]⟩) (.slice none 0 0) (.slice none 0 0))
      rw [hw3] at HL HB
      clear X3 B3 Y3 HN HY HQ HG hw3 hc
      go_wp2_with (go_at_call 73; refine (J.out _ _ _ _).mono ?_; rintro e w' ⟨rfl, hw⟩; replace hw := hw.symm; subst hw; rw [E1.out])
      obtain ⟨tt, htt⟩ := HL.out
      refine bodyPost_ret (results_cell_tmp rfl _ _ w.heap.size tt _ (0, 0) _ (.bool false) rfl rfl htt Tryd.underlying82 rfl Tryd.sizeMeeting) rfl ?_
      exact ⟨none, 0, none, 0, rfl, .inl ⟨rfl, none, 0, rfl⟩, HB.out⟩

set_option maxRecDepth 100000 in
set_option maxHeartbeats 8000000 in
theorem newMeetingI (c : Int) (s : ByteArray) (w : World) (hs : s.size ≤ 1048576) (hT : Tab w) :
    Calls Tryd.prog 47 #[.int .i64 c, .string s] w (NwPost w (nmT c s) (nmN c s) (nmB c s)) := by
  obtain ⟨u0, hu0, hz0, hz1, hz2⟩ := info_parts Tryd.infoCl
  obtain ⟨w1, hw1⟩ : ∃ w1, w1 = w.alloc (.cells #[.string ⟨#[]⟩, .string ⟨#[]⟩, .slice none 0 0, .slice none 0 0] 82) := ⟨_, rfl⟩
  have hb1 : Below w.heap.size w w1 := by rw [hw1]; exact (Below.refl _ _).alloc (Nat.le_refl _) _
  have X1 : Hid (CB w1 w.heap.size #[.string ⟨#[]⟩, .string ⟨#[]⟩, .slice none 0 0, .slice none 0 0]) := hide (by rw [hw1]; exact CB.new _ _ _)
  have hs1 : w1.heap.size = w.heap.size + 1 := by rw [hw1]; simp
  have NS := hide (newSvI s w1 hs (hT.below hb1))
  have B1 := hide hb1
  have CL := hide (fun w' => strClone_any s w' hs)
  have HN : Hid (nmB c s = false → nmT c s = ⟨#[]⟩ ∧ nmN c s = 0) := hide (fun e => by unfold nmT nmN; rw [e]; exact ⟨rfl, rfl⟩)
  have HY : Hid (nmB c s = true → nmT c s = s ∧ nmN c s = c.toNat) := hide (fun e => by unfold nmT nmN; rw [e]; exact ⟨rfl, rfl⟩)
  have HQ : Hid (nmB c s = (good s.data.toList && decide (1 ≤ c ∧ c ≤ 4))) := hide rfl
  obtain ⟨NB, hNB⟩ : ∃ x, nmB c s = x := ⟨_, rfl⟩
  obtain ⟨NT, hNT⟩ : ∃ x, nmT c s = x := ⟨_, rfl⟩
  obtain ⟨NN, hNN⟩ : ∃ x, nmN c s = x := ⟨_, rfl⟩
  rw [hNB, hNT, hNN]
  rw [hNB] at HN HY HQ
  rw [hNT, hNN] at HN HY
  clear hb1 hNB hNT hNN hT
  unfold NwPost
  go_enter Tryd.func47, Tryd.ntmps47
  go_wp2_with fail
  rw [← hw1]
  clear hw1
  refine NS.out.mono ?_
  rintro e w2 ⟨x, rfl, ⟨S0, hx, -⟩, hb2⟩
  obtain ⟨ax, cx, rfl⟩ := hx.shp
  have hL : (nsL s).length = 0 := rfl
  rw [hL]
  clear hx hL
  have X2 := hide (X1.out.later hb2)
  have B2 : Hid (Below w.heap.size w w2) := hide (B1.out.trans (hb2.mono B1.out.size))
  have hs2 : w.heap.size + 1 ≤ w2.heap.size := by have := hb2.size; omega
  obtain ⟨w3, hw3⟩ : ∃ w3, w3 = w2.alloc (.cells #[.string (nsS s), .string (nsT s), .slice ax 0 cx] 79) := ⟨_, rfl⟩
  have hb3 : Below w2.heap.size w2 w3 := by rw [hw3]; exact (Below.refl _ _).alloc (Nat.le_refl _) _
  have X3 := hide (X2.out.later hb3)
  have B3 : Hid (Below w.heap.size w w3) := hide (B2.out.trans (hb3.mono B2.out.size))
  have hs3 : w3.heap.size = w2.heap.size + 1 := by rw [hw3]; simp
  have Y3 : Hid (CB w3 w2.heap.size #[.string (nsS s), .string (nsT s), .slice ax 0 cx]) := hide (by rw [hw3]; exact CB.new _ _ _)
  obtain ⟨gd, hgd⟩ : ∃ b, good s.data.toList = b := ⟨_, rfl⟩
  rw [hgd] at HQ ⊢
  have HG := hide hgd
  clear hb2 hb3 NS X1 B1 X2 B2 hgd hs1
  cases gd with
  | false =>
    obtain rfl : NB = false := by rw [HQ.out]; rfl
    obtain ⟨rfl, rfl⟩ := HN.out rfl
    have f0 := X3.out.fz 0
    have f1 := X3.out.fz 1
    have f2 := X3.out.fz 2
    have f3 := X3.out.fz 3
    have m0 : w3.cell? ⟨w.heap.size, 0, none⟩ = some (.string ⟨#[]⟩) := X3.out.cell 0 rfl
    have m1 : w3.cell? ⟨w.heap.size, 1, none⟩ = some (.string ⟨#[]⟩) := X3.out.cell 1 rfl
    have m2 : w3.cell? ⟨w.heap.size, 2, none⟩ = some (.slice none 0 0) := X3.out.cell 2 rfl
    have m3 : w3.cell? ⟨w.heap.size, 3, none⟩ = some (.slice none 0 0) := X3.out.cell 3 rfl
    rw [hw3] at f0 f1 f2 f3 m0 m1 m2 m3
    have HL := hide (X3.out.put4 (.string ⟨#[]⟩) (.string ⟨#[]⟩) (.slice none 0 0) (.slice none 0 0))
    have HB := hide (put4_below B3.out (Nat.le_refl w.heap.size) (.string ⟨#[]⟩) (.string ⟨#[]⟩) (.slice none 0 0) (.slice none 0 0))
    rw [hw3] at HL HB
    clear X3 B3 Y3 HN HY HQ HG hw3
    go_wp2
    obtain ⟨tt, htt⟩ := HL.out
    refine bodyPost_ret (results_cell_tmp rfl _ _ w.heap.size tt _ (0, 0) _ (.bool false) rfl rfl htt Tryd.underlying82 rfl Tryd.sizeMeeting) rfl ?_
    exact ⟨none, 0, none, 0, rfl, .inl ⟨rfl, none, 0, rfl⟩, HB.out⟩
  | true =>
    have hSS : nsS s = s ∧ nsT s = s := by unfold nsS nsT; rw [if_pos HG.out]; exact ⟨rfl, rfl⟩
    rw [hSS.1, hSS.2] at Y3 hw3 ⊢
    clear hSS
    by_cases hc : 1 ≤ c ∧ c ≤ 4
    · obtain rfl : NB = true := by rw [HQ.out, decide_eq_true hc]; rfl
      obtain ⟨n, rfl⟩ : ∃ n : Nat, c = (n : Int) := ⟨c.toNat, by omega⟩
      obtain ⟨e1, e2⟩ := HY.out rfl
      rw [Int.toNat_natCast] at e2
      replace e1 := e1.symm
      replace e2 := e2.symm
      subst e1
      subst e2
      have hn4 : n ≤ 4 := by omega
      have hn1 : 1 ≤ n := by omega
      obtain ⟨w4, hw4⟩ : ∃ w4, w4 = w3.alloc (.cells #[.string s, .string s, .slice ax 0 cx, .slice none 0 0] 82) := ⟨_, rfl⟩
      have hb4 : Below w3.heap.size w3 w4 := by rw [hw4]; exact (Below.refl _ _).alloc (Nat.le_refl _) _
      have I0 : Hid (MI w w3.heap.size s ax cx 0 w4) := hide ⟨none, 0, by rw [hw4]; exact CB.new _ _ _, World.ownsRow_nil _ _ _ _, X3.out.later hb4, B3.out.trans (hb4.mono B3.out.size)⟩
      have y0 : w3.cell? ⟨w2.heap.size, 0, none⟩ = some (.string s) := Y3.out.cell 0 rfl
      have y1 : w3.cell? ⟨w2.heap.size, 1, none⟩ = some (.string s) := Y3.out.cell 1 rfl
      have y2 : w3.cell? ⟨w2.heap.size, 2, none⟩ = some (.slice ax 0 cx) := Y3.out.cell 2 rfl
      rw [hw3] at y0 y1 y2
      obtain ⟨b, hbe⟩ : ∃ b, b = w3.heap.size := ⟨_, rfl⟩
      have hbw : w.heap.size < b := by omega
      rw [← hbe] at I0
      have hbs : b = w2.heap.size + 1 := by omega
      clear HN HY HQ HG X3 B3 Y3 hc hb4
      have hcn1 : ¬ (n : Int) < 1 := by omega
      have hcn4 : ¬ (n : Int) > 4 := by omega
      go_wp2
      rw [← hw3, ← hw4]
      rw [← hbs] 
      clear hw3 hw4 hbe hbs hs3 y0 y1 y2
      go_loopw [9, 29] (fun x i wr => ∃ k : Nat, k ≤ n ∧ i = .int .i64 k ∧ Hid (MI w b s ax cx k wr)) (fun x i _ => n - (intOf i).toNat)
      case atStart => exact ⟨0, by omega, rfl, I0⟩
      case round =>
        obtain ⟨k, hk, rfl, HR⟩ := hrel
        by_cases hlt : k < n
        · obtain ⟨a, cc, h1, h2, h3, h4⟩ := HR.out
          have c3 : wr.cell? ⟨b, 3, none⟩ = some (.slice a k cc) := h1.cell 3 rfl
          have H1 := hide h1
          have H2 := hide h2
          have H3 := hide h3
          have H4 := hide h4
          have hlt1 : b < wr.heap.size := h1.lt
          clear HR h1 h2 h3 h4
          have KB : Hid (∀ w', Below wr.heap.size wr w' → w'.cell? ⟨b, 3, none⟩ = some (.slice a k cc)) := hide (fun w' hb => (H1.out.later hb).cell 3 rfl)
          go_wp2_with fail
          go_region_law
            (first
              | (refine step_clone (by rfl) _ _ (by rfl) s hs (by rfl) ?_; intro w5 hb5; have hb5' : Below wr.heap.size wr w5 := (by first | exact hb5 | exact (Below.refl _ _).drew.trans hb5); have c5 : w5.cell? ⟨b, 3, none⟩ = some (.slice a k cc) := (H1.out.later hb5').cell 3 rfl; have c5a : ∀ o : Obj, (w5.alloc o).cell? ⟨b, 3, none⟩ = some (.slice a k cc) := fun o => (H1.out.later (hb5'.alloc hb5'.size o)).cell 3 rfl)
              | (refine step_append_lies _ (by rfl) _ _ _ (by rfl) (b + 1) 178 u0 _ 8 104 Tryd.underlying80 hu0 hz0 hz1 hz2 rfl (by omega) (.slice a k cc) k (encN s k) (by rfl) (World.ownsRow.alloc (own_below H2.out hb5') _) ⟨w5.heap.size, 0, none⟩ 1 1 [.int .i64 (k : Int), .string s, .int .i64 0, .int .i64 0, .bool false, .slice none 0 0, .slice none 0 0, .bool false] (by rfl) (by rfl) (World.news_of_block (cs := #[.int .i64 (k : Int), .string s, .int .i64 0, .int .i64 0, .bool false, .slice none 0 0, .slice none 0 0, .bool false]) (t := 178) (fr := (0, 0)) (heap_alloc_new w5 _)) (by simp [Value.oneCell']) (by omega) (by unfold maxLen; omega) (by omega) (by have := hb5'.size; simp; omega) (w5.heap.size + 1) (by simp) ?_; intro gg cap9 w9 hown' hgrow hat hlt9; obtain ⟨⟨q1, q2⟩, q3⟩ := MI.step (g9 := (some ⟨gg, 0, none⟩, 0)) (cap9 := (none, cap9)) hbw H1.out H2.out H3.out H4.out hb5' hgrow hown'; have HM := hide q3))
          all_goals
            clear q3 hown' hgrow hat hlt9 hb5 hb5'
            go_wp2
            refine ⟨⟨k + 1, by omega, by go_num, HM⟩, by simp [intOf]; omega⟩
        · obtain rfl : k = n := by omega
          obtain ⟨a, cc, h1, h2, h3, h4⟩ := HR.out
          have y0 : wr.cell? ⟨b, 0, none⟩ = some (.string s) := h1.cell 0 rfl
          have y1 : wr.cell? ⟨b, 1, none⟩ = some (.string s) := h1.cell 1 rfl
          have y2 : wr.cell? ⟨b, 2, none⟩ = some (.slice ax 0 cx) := h1.cell 2 rfl
          have y3 : wr.cell? ⟨b, 3, none⟩ = some (.slice a k cc) := h1.cell 3 rfl
          have f0 := h3.fz 0
          have f1 := h3.fz 1
          have f2 := h3.fz 2
          have f3 := h3.fz 3
          have m0 : wr.cell? ⟨w.heap.size, 0, none⟩ = some (.string ⟨#[]⟩) := h3.cell 0 rfl
          have m1 : wr.cell? ⟨w.heap.size, 1, none⟩ = some (.string ⟨#[]⟩) := h3.cell 1 rfl
          have m2 : wr.cell? ⟨w.heap.size, 2, none⟩ = some (.slice none 0 0) := h3.cell 2 rfl
          have m3 : wr.cell? ⟨w.heap.size, 3, none⟩ = some (.slice none 0 0) := h3.cell 3 rfl
          have HL := hide (h3.put4 (.string s) (.string s) (.slice ax 0 cx) (.slice a k cc))
          have HB := hide (put4_below h4 (Nat.le_refl w.heap.size) (.string s) (.string s) (.slice ax 0 cx) (.slice a k cc))
          have HR2 := hide (nr_put (w1 := (((wr.setCell ⟨w.heap.size, 0, none⟩ (.string s)).setCell ⟨w.heap.size, 1, none⟩ (.string s)).setCell ⟨w.heap.size, 2, none⟩ (.slice ax 0 cx)).setCell ⟨w.heap.size, 3, none⟩ (.slice a k cc)) (nc_nr h2) (by simp [World.setCell]) (fun y hy _ => by
            rw [Below.heap_setCell _ _ _ _ (by show y ≠ w.heap.size; omega), Below.heap_setCell _ _ _ _ (by show y ≠ w.heap.size; omega), Below.heap_setCell _ _ _ _ (by show y ≠ w.heap.size; omega), Below.heap_setCell _ _ _ _ (by show y ≠ w.heap.size; omega)]))
          clear HR h1 h2 h3 h4
          go_wp2
          obtain ⟨tt, htt⟩ := HL.out
          refine bodyPost_ret (results_cell_tmp rfl _ _ w.heap.size tt _ (0, 0) _ (.bool true) rfl rfl htt Tryd.underlying82 rfl Tryd.sizeMeeting) rfl ?_
          exact ⟨ax, cx, a, cc, rfl, HR2.out.wide (by omega) (by simp [World.setCell]), HB.out⟩
    · obtain rfl : NB = false := by rw [HQ.out, decide_eq_false hc]; rfl
      obtain ⟨rfl, rfl⟩ := HN.out rfl
      by_cases hc1 : c < 1
      · skip
        have f0 := X3.out.fz 0
        have f1 := X3.out.fz 1
        have f2 := X3.out.fz 2
        have f3 := X3.out.fz 3
        have m0 : w3.cell? ⟨w.heap.size, 0, none⟩ = some (.string ⟨#[]⟩) := X3.out.cell 0 rfl
        have m1 : w3.cell? ⟨w.heap.size, 1, none⟩ = some (.string ⟨#[]⟩) := X3.out.cell 1 rfl
        have m2 : w3.cell? ⟨w.heap.size, 2, none⟩ = some (.slice none 0 0) := X3.out.cell 2 rfl
        have m3 : w3.cell? ⟨w.heap.size, 3, none⟩ = some (.slice none 0 0) := X3.out.cell 3 rfl
        rw [hw3] at f0 f1 f2 f3 m0 m1 m2 m3
        have HL := hide (X3.out.put4 (.string ⟨#[]⟩) (.string ⟨#[]⟩) (.slice none 0 0) (.slice none 0 0))
        have HB := hide (put4_below B3.out (Nat.le_refl w.heap.size) (.string ⟨#[]⟩) (.string ⟨#[]⟩) (.slice none 0 0) (.slice none 0 0))
        rw [hw3] at HL HB
        clear X3 B3 Y3 HN HY HQ HG hw3 hc
        go_wp2
        obtain ⟨tt, htt⟩ := HL.out
        refine bodyPost_ret (results_cell_tmp rfl _ _ w.heap.size tt _ (0, 0) _ (.bool false) rfl rfl htt Tryd.underlying82 rfl Tryd.sizeMeeting) rfl ?_
        exact ⟨none, 0, none, 0, rfl, .inl ⟨rfl, none, 0, rfl⟩, HB.out⟩
      · have hc4 : c > 4 := by omega
        have f0 := X3.out.fz 0
        have f1 := X3.out.fz 1
        have f2 := X3.out.fz 2
        have f3 := X3.out.fz 3
        have m0 : w3.cell? ⟨w.heap.size, 0, none⟩ = some (.string ⟨#[]⟩) := X3.out.cell 0 rfl
        have m1 : w3.cell? ⟨w.heap.size, 1, none⟩ = some (.string ⟨#[]⟩) := X3.out.cell 1 rfl
        have m2 : w3.cell? ⟨w.heap.size, 2, none⟩ = some (.slice none 0 0) := X3.out.cell 2 rfl
        have m3 : w3.cell? ⟨w.heap.size, 3, none⟩ = some (.slice none 0 0) := X3.out.cell 3 rfl
        rw [hw3] at f0 f1 f2 f3 m0 m1 m2 m3
        have HL := hide (X3.out.put4 (.string ⟨#[]⟩) (.string ⟨#[]⟩) (.slice none 0 0) (.slice none 0 0))
        have HB := hide (put4_below B3.out (Nat.le_refl w.heap.size) (.string ⟨#[]⟩) (.string ⟨#[]⟩) (.slice none 0 0) (.slice none 0 0))
        rw [hw3] at HL HB
        clear X3 B3 Y3 HN HY HQ HG hw3 hc
        go_wp2
        obtain ⟨tt, htt⟩ := HL.out
        refine bodyPost_ret (results_cell_tmp rfl _ _ w.heap.size tt _ (0, 0) _ (.bool false) rfl rfl htt Tryd.underlying82 rfl Tryd.sizeMeeting) rfl ?_
        exact ⟨none, 0, none, 0, rfl, .inl ⟨rfl, none, 0, rfl⟩, HB.out⟩
end Go.Proofs.YtkjioadmebkaoaaDoor
