/- The contracts of the walker's path and of impl.PathOf. -/
import Derived.Test.YtbmnciejaknonatDoorPathW1
namespace Go.Proofs.YtbmnciejaknonatDoor
open Go.RowKit
open Doc1

def inn (l : List (Nat × Nat)) : Nat := match l.getLast? with | some x => x.2 | none => 0
def nums (l : List (Nat × Nat)) : List Value := l.map fun x => Value.int .i64 (x.1 : Int)
theorem inn_snoc (l : List (Nat × Nat)) (x : Nat × Nat) : inn (l ++ [x]) = x.2 := by simp [inn]
theorem nums_snoc (l : List (Nat × Nat)) (x : Nat × Nat) : nums (l ++ [x]) = nums l ++ [.int .i64 (x.1 : Int)] := by simp [nums]
theorem inn_rev (l : List (Nat × Nat)) : inn l.reverse = (l.headD (0, 0)).2 := by
  cases l with
  | nil => rfl
  | cons a l => simp [inn]
theorem inn_le {l : List (Nat × Nat)} {M : Nat} (h : ∀ x ∈ l, x.1 ≤ M ∧ x.2 ≤ M) : inn l ≤ M := by
  unfold inn
  split
  · rename_i x hx; exact (h x (List.mem_of_getLast? hx)).2
  · omega
theorem path_cells (q : WS) (k : Nat) : ints (pathL q k) = nums q.op.reverse ++ [.int .i64 ((k : Int) - (inn q.op.reverse : Int))] := by
  rw [inn_rev]; simp [ints, pathL, nums]
theorem path_len (q : WS) (k : Nat) : (pathL q k).length = q.op.length + 1 := by simp [pathL]
theorem opC_at (l : List (Nat × Nat)) : ∀ i (h : i < l.length), (opC l)[i * 2]? = some (.int .i64 (l[i].1 : Int)) ∧ (opC l)[i * 2 + 1]? = some (.int .i64 (l[i].2 : Int)) := by
  induction l with
  | nil => intro i h; simp at h
  | cons n l ih =>
    intro i h
    have e : opC (n :: l) = [.int .i64 (n.1 : Int), .int .i64 (n.2 : Int)] ++ opC l := by simp [opC]
    cases i with
    | zero => rw [e]; simp
    | succ i =>
      have := ih i (by simpa using h)
      rw [e, show (i + 1) * 2 = 2 + i * 2 by omega, show 2 + i * 2 + 1 = 2 + (i * 2 + 1) by omega]
      rw [List.getElem?_append_right (by simp), List.getElem?_append_right (by simp)]
      simpa using this

/-- What is known in the rounds of path. -/
structure RAt (R : List (Nat × Nat)) (w : World) (v : Value) (i : Nat) (wr : World) : Prop where
  hi : i ≤ R.length
  own : wr.ownsRow w.heap.size 3 1 v i (nums (R.take i))
  below : Below w.heap.size w wr

set_option maxRecDepth 100000 in
set_option maxHeartbeats 2000000 in
theorem path_any (B g : Nat) (v : Value) (q : WS) (k : Nat) (w : World) (h : WkAt B g v q k w) (hk : k ≤ 1000) (hq : q.op.length ≤ 1000) (hx : ∀ x ∈ q.op, x.1 ≤ 1000 ∧ x.2 ≤ 1000) :
    Calls Tryd.prog 42 #[.pointer (some ⟨g, 0, none⟩)] w fun e w' => ∃ v', e = .returned v' ∧ w'.ownsRow w.heap.size 3 1 v' (pathL q k).length (ints (pathL q k)) ∧ Below w.heap.size w w' := by
  obtain ⟨i0, hi0, hz0, hz1, hz2⟩ := info_parts Tryd.info3
  have lg : g < w.heap.size := World.block_lt_of_cell? w _ h.c0
  have hc0 := h.c0
  have hc1 := h.c1
  obtain ⟨R, hR⟩ : ∃ R, R = q.op.reverse := ⟨_, rfl⟩
  have hRx : Hid (∀ x ∈ R, x.1 ≤ 1000 ∧ x.2 ≤ 1000) := hide (fun x hx' => hx x (by rw [hR] at hx'; simpa using hx'))
  have hRl : R.length = q.op.length := by rw [hR]; simp
  have hP := path_cells q k
  have hPl := path_len q k
  rw [← hR] at hP
  rw [← hRl] at hPl hq
  have hown := h.own
  rw [← hR, ← hRl] at hown
  have hv : ∃ a cap, v = .slice a R.length cap ∧ R.length ≤ cap ∧ cap ≤ maxLen := by
    rcases hown.2 with ⟨rfl, h0⟩ | ⟨g, cap, cur, hv, hb, hh, hle, hm, hs, ht⟩
    · exact ⟨none, 0, by rw [h0], by omega, by unfold maxLen; omega⟩
    · exact ⟨_, cap, hv, hle, hm⟩
  have hcell : Hid (∀ i (hi : i < R.length), ∃ gv cap, v = .slice (some ⟨gv, 0, none⟩) R.length cap ∧ gv < w.heap.size ∧ w.cell? ⟨gv, i * 2, none⟩ = some (.int .i64 (R[i].1 : Int)) ∧ w.cell? ⟨gv, i * 2 + 1, none⟩ = some (.int .i64 (R[i].2 : Int))) := hide (fun i hi => by
    obtain ⟨gv, cap, hv, -, -, -, hl, hc⟩ := own_open hown (by omega)
    exact ⟨gv, cap, hv, hl, hc _ _ (opC_at R i hi).1, hc _ _ (opC_at R i hi).2⟩)
  clear hown h hx hR hRl
  obtain ⟨av, cv, rfl, hcv1, hcv2⟩ := hv
  have HP := hide hP
  have HPl := hide hPl
  clear hP hPl
  go_enter Tryd.func42, Tryd.ntmps42
  go_wp2
  go_loopw [3, 4, 12] (fun u n i wr => ∃ k : Nat, i = .int .i64 k ∧ n = .int .i64 (inn (R.take k) : Int) ∧ RAt R w u k wr) (fun _ _ i _ => R.length - (intOf i).toNat)
  case atStart => exact ⟨0, rfl, rfl, Nat.zero_le _, World.ownsRow_nil _ _ _ _, Below.refl _ _⟩
  case round =>
    obtain ⟨i, rfl, rfl, hat⟩ := hrel
    have hi := hat.hi
    by_cases hlt : i < R.length
    · obtain ⟨gv, cap', hv, hl, e0, e1⟩ := hcell.out i hlt
      injection hv with hv1 hv2 hv3
      subst hv1 hv3
      have f0 := (World.cell?_of_block (a := ⟨gv, i * 2, none⟩) (hat.below.block gv hl)).trans e0
      have f1 := (World.cell?_of_block (a := ⟨gv, i * 2 + 1, none⟩) (hat.below.block gv hl)).trans e1
      have hown := hat.own
      have hbel := hat.below
      have hsz := hat.below.size
      have hb := hRx.out R[i] (List.getElem_mem hlt)
      have T : R.take (i + 1) = R.take i ++ [R[i]] := List.take_succ_eq_append_getElem hlt
      have HT := hide T
      clear hat e0 e1 T hcell
      go_wp2_with (at_builtin; refine wpList_append_own _ rfl _ _ 31 rfl w.heap.size 3 i0 (.int .i64 0) 1 8 Tryd.underlying31 hi0 hz0 hz1 hz2 rfl (by decide) _ _ _ rfl ((hown.alloc _).alloc _) ⟨wr.heap.size + 1, 0, none⟩ 1 1 [.int .i64 (R[i].1 : Int)] rfl rfl ?c1 ?c2 ?c3 ?c4 ?c5 ?_)
      all_goals try (first | exact cell_two_new _ _ _ _ | exact cell_one_new _ _ _ | rfl | (intro u hu; simp at hu; subst hu; rfl) | (unfold maxLen; omega) | omega | (simp; omega))
      intro v' w2 hown' hgrow _
      have A : RAt R w v' (i + 1) w2 := ⟨by omega, by rw [HT.out, nums_snoc]; exact hown', below_append (hbel.alloc hsz _) (hown.alloc _) (by simp; omega) hgrow⟩
      have d1 : w2.cell? ⟨wr.heap.size, 1, none⟩ = some (.int .i64 (R[i].2 : Int)) := by
        refine (World.cell?_of_block (hgrow.block wr.heap.size (by simp; omega) ?_)).trans ?_
        · intro e
          have := hown.lt _ e.symm
          omega
        · rw [World.cell?_of_block (Below.heap_alloc _ _ _ (by simp)), World.cell?_alloc_at _ _ _ _ rfl]; rfl
      have HA := hide A
      clear hown' hgrow A hown
      go_wp2
      refine ⟨⟨i + 1, by go_num, by rw [HT.out, inn_snoc], HA.out⟩, by simp [intOf]; omega⟩
    · obtain rfl : i = R.length := by omega
      have hown := hat.own
      have hbel := hat.below
      have hsz := hat.below.size
      have d0 := (World.cell?_of_block (a := ⟨g, 0, none⟩) (hat.below.block g lg)).trans hc0
      rw [List.take_length] at hown
      have hin : inn R ≤ 1000 := inn_le hRx.out
      have e : inn (R.take R.length) = inn R := by rw [List.take_length]
      rw [e]
      clear hat hcell
      go_wp2_with (at_builtin; refine wpList_append_own _ rfl _ _ 31 rfl w.heap.size 3 i0 (.int .i64 0) 1 8 Tryd.underlying31 hi0 hz0 hz1 hz2 rfl (by decide) _ _ _ rfl (hown.alloc _) ⟨wr.heap.size, 0, none⟩ 1 1 [.int .i64 ((k : Int) - (inn R : Int))] rfl rfl ?k1 ?k2 ?k3 ?k4 ?k5 ?_)
      all_goals try (first | exact cell_two_new _ _ _ _ | exact cell_one_new _ _ _ | rfl | (intro u hu; simp at hu; subst hu; rfl) | (unfold maxLen; omega) | omega | (simp; omega))
      intro v' w2 hown' hgrow _
      have hb2 := below_append hbel hown hsz hgrow
      clear hown hgrow
      go_wp2
      go_ret
      exact ⟨_, rfl, by rw [HPl.out, HP.out]; exact hown', hb2⟩

theorem own_base {w : World} {B B' n sz : Nat} {e : TypeId} {v : Value} {xs : List Value} (h : w.ownsRow B e sz v n xs) (hB : B' ≤ B) : w.ownsRow B' e sz v n xs := by
  refine ⟨h.1, h.2.imp id ?_⟩
  rintro ⟨g, cap, cur, hv, hb, r⟩
  exact ⟨g, cap, cur, hv, Nat.le_trans hB hb, r⟩
/-- The walker at a place of a document takes its step. -/
theorem step_any (s : ByteArray) (hd : doc s.data.toList = true) (hs : s.size ≤ 300) (B g : Nat) (v : Value) (k : Nat) (w : World) (hk : k < s.size) (h : WkAt B g v (W s.data.toList k) k w) (hB : B ≤ w.heap.size) (hT : Tab w) (hTB : 0 < B) :
    Calls Tryd.prog 41 #[.pointer (some ⟨g, 0, none⟩), .int .u8 (s[k].toNat : Int)] w fun e w' => e = .returned (.tuple #[]) ∧ (∃ v', WkAt B g v' (W s.data.toList (k + 1)) (k + 1) w') ∧ Below B w w' := by
  obtain ⟨b1, b2, b3⟩ := W_bd s k (by omega)
  rw [W_succ s k hk]
  by_cases ho : opB s[k] = true
  · exact step_op B g v _ k s[k] w h (by omega) (by omega) hB hT hTB ho
  · by_cases he : enB s[k] = true
    · have hl := W_len s hd k (by omega)
      have hb := (dep_bd s hd (k + 1) (by omega)).1
      rw [dep_succ s k hk, show dl s[k] = -1 by simp [dl, ho, he]] at hb
      cases hq : (W s.data.toList k).op with
      | nil => rw [hq] at hl; simp only [List.length_nil] at hl; omega
      | cons x l =>
        have e : W s.data.toList k = ⟨x :: l, (W s.data.toList k).kids⟩ := by rw [← hq]
        rw [e] at h ⊢
        have hx := b2 x (by rw [hq]; simp)
        rw [hq] at b3
        simp at b3
        exact step_en B g v x l _ k s[k] w h (by omega) (by omega) (by omega) hT hTB he
    · exact step_pl B g v _ k s[k] w h (by omega) hT hTB (by simpa using ho) (by simpa using he)

set_option maxHeartbeats 2000000 in
theorem pathI_yes (s : ByteArray) (n : Nat) (w : World) (hs : s.size ≤ 1048576) (hT : Tab w) (hd : doc s.data.toList = true) (hn : n ≤ s.size) :
    Calls Tryd.prog 17 #[.string s, .int .i64 n] w fun e w' => ∃ v, e = .returned (.tuple #[v, .bool true]) ∧ w'.ownsRow w.heap.size 3 1 v (path s.data.toList n).length (ints (path s.data.toList n)) ∧ Below w.heap.size w w' := by
  have hs3 : s.size ≤ 300 := by
    unfold doc good at hd
    simp only [Bool.and_eq_true, decide_eq_true_eq] at hd
    have := hd.1.2
    simpa using this
  have hTl := hT.lt
  have G := goodDocI_any s w hs hT
  rw [hd] at G
  replace G := hide G
  have Hd := hide hd
  clear hd
  go_enter Tryd.func17, Tryd.ntmps17
  go_wp2_with (go_at_call 40; refine G.out.mono ?_; rintro e w1 ⟨rfl, hb1⟩)
  clear G
  go_loopw [20] (fun _ wr => ∃ (k : Nat) (v : Value), k ≤ n ∧ WkAt w.heap.size w1.heap.size v (W s.data.toList k) k wr ∧ Below w.heap.size w wr) (fun _ wr => n - (intOf ((wr.cell? ⟨w1.heap.size, 0, none⟩).getD undef)).toNat)
  case atStart =>
    exact ⟨0, _, Nat.zero_le _, ⟨by rw [World.cell?_alloc_at _ _ _ _ rfl]; rfl, by rw [World.cell?_alloc_at _ _ _ _ rfl]; rfl, by rw [World.cell?_alloc_at _ _ _ _ rfl]; rfl, fun j => World.frozen?_alloc_new _ _ _ _, World.ownsRow_nil _ _ _ _, by simp [Value.ownBlock], hb1.size⟩, hb1.alloc hb1.size _⟩
  case round =>
    obtain ⟨k, v, hk, hat, hbel⟩ := hrel
    have c0 := hat.c0
    by_cases hlt : k < n
    · have hks : k < s.size := by omega
      have St := hide (step_any s Hd.out hs3 _ _ v k wr hks hat hbel.size (hT.low hbel hTl) hTl)
      have HC := hide hat.c0
      clear hat
      go_wp2_with fail
      refine St.out.mono ?_
      rintro e w2 ⟨rfl, ⟨v', hat'⟩, hb2⟩
      have HD := hide hat'.c0
      go_wp2
      go_roundw
      case rel =>
        have h1 : decide (s.size < n) = false := decide_eq_false (by omega)
        have h2 : decide ((n : Int) < 0) = false := decide_eq_false (by omega)
        exact ⟨_, _, _, _, _, _, _, _, _, ⟨k + 1, v', by omega, hat', hbel.trans hb2⟩, by rw [h1, h2]; rfl⟩
      case measure => rw [HD.out, HC.out]; simp [intOf]; omega
    · obtain rfl : k = n := by omega
      obtain ⟨b1, b2, b3⟩ := W_bd s k hn
      have Pa := hide (path_any _ _ v _ k wr hat (by omega) (by omega) (fun x hx => by have := b2 x hx; omega))
      clear hat
      go_wp2_with fail
      refine Pa.out.mono ?_
      rintro e w2 ⟨v', rfl, hown, hb2⟩
      go_wp2
      go_ret2
      refine ⟨_, rfl, ?_, hbel.trans (hb2.mono hbel.size)⟩
      exact own_base hown hbel.size

set_option maxHeartbeats 1000000 in
theorem pathI_no (s : ByteArray) (a : Int) (w : World) (hs : s.size ≤ 1048576) (hT : Tab w) (h : ¬ (doc s.data.toList = true ∧ 0 ≤ a ∧ a ≤ s.size)) :
    Calls Tryd.prog 17 #[.string s, .int .i64 a] w fun e w' => e = .returned (.tuple #[.slice none 0 0, .bool false]) ∧ Below w.heap.size w w' := by
  have G := goodDocI_any s w hs hT
  by_cases hd : doc s.data.toList = true
  · rw [hd] at G
    replace G := hide G
    have hr : a < 0 ∨ (s.size : Int) < a := by
      apply Classical.byContradiction
      intro hn
      exact h ⟨hd, by omega, by omega⟩
    clear h hd
    rcases hr with hr | hr
    all_goals
      go_enter Tryd.func17, Tryd.ntmps17
      go_wp2_with (go_at_call 40; refine G.out.mono ?_; rintro e w1 ⟨rfl, hb1⟩)
      go_ret2
      exact ⟨rfl, hb1⟩
  · rw [Bool.eq_false_iff.2 hd] at G
    replace G := hide G
    clear h hd
    go_enter Tryd.func17, Tryd.ntmps17
    go_wp2_with (go_at_call 40; refine G.out.mono ?_; rintro e w1 ⟨rfl, hb1⟩)
    go_ret2
    exact ⟨rfl, hb1⟩
end Go.Proofs.YtbmnciejaknonatDoor
