/- The model's own helpers over ropes: a piece, boughs that are joined. The model's own helpers over ropes, on: pieces joined evenly, cut, told, read. The model's own helpers over ropes, on: pieces told, texts, sizes; where a bough's own boughs begin (mathematics). Where a bough's own boughs begin: the model's l12First, and its GoodRope. The walk of the model's l12First. The model's functions over ropes: GoodRope, TextIn, PiecesOf, RopeOf, Rebalance, JoinRopes. The model's functions over ropes, on: RopeOf, Rebalance, JoinRopes. -/
import Derived.Test.YtkjioadmebkaoaaDoorRopB
set_option linter.unusedVariables false
namespace Go.Proofs.YtkjioadmebkaoaaDoor
open Go.RowKit
open Doc1

/-- A row of boughs is told: it lies somewhere, and nothing that lay has changed. -/
def BiPost (w : World) (l : List Bg) (e : Ending) (w' : World) : Prop := ∃ a cap, e = .returned (.slice a l.length cap) ∧ BoIn w' a cap l ∧ Below w.heap.size w w'

/-- A row of boughs of its own is told. -/
def OwPost (w : World) (l : List Bg) (e : Ending) (w' : World) : Prop := ∃ v, e = .returned v ∧ BoOwn w' w.heap.size v l ∧ Below w.heap.size w w'

theorem OwPost.bi {w : World} {l : List Bg} {e : Ending} {w' : World} (h : OwPost w l e w') : BiPost w l e w' := by
  obtain ⟨v, rfl, ho, hb⟩ := h
  obtain ⟨a, cap, rfl, hi⟩ := ho.inn
  exact ⟨a, cap, rfl, hi, hb⟩

theorem BoIn.nil (w : World) (a : Option Addr) (cap : Nat) (h : cap ≤ maxLen) : BoIn w a cap [] := ⟨Nat.zero_le _, h, fun c => absurd rfl c⟩

set_option maxRecDepth 100000 in
set_option maxHeartbeats 4000000 in
theorem l12Piece_any (s : ByteArray) (w : World) (hs : s.size ≤ 1000000) : Calls Tryd.prog 84 #[.string s] w (OwPost w (bo (some (.pc s)))) := by
  unfold OwPost
  have HO := hide (own_new w 36 #[.int .i64 (-1), .int .i64 (-1), .string s, .int .i64 (s.size : Int), .int .i64 0] 1 5 rfl (by omega))
  have HB : Hid (Below w.heap.size w (w.alloc (.cells #[.int .i64 (-1), .int .i64 (-1), .string s, .int .i64 (s.size : Int), .int .i64 0] 36))) := hide ((Below.refl _ _).alloc (Nat.le_refl _) _)
  go_enter Tryd.func84, Tryd.ntmps84
  go_wp2
  go_ret
  have ho : BoOwn (w.alloc (.cells #[.int .i64 (-1), .int .i64 (-1), .string s, .int .i64 (s.size : Int), .int .i64 0] 36)) w.heap.size (.slice (some ⟨w.heap.size, 0, none⟩) 1 1) (bo (some (.pc s))) := HO.out
  exact ⟨_, rfl, ho, HB.out⟩

/-- Boughs laid further behind. -/
def shf (n : Nat) (b : Bg) : Bg := if 0 ≤ b.left then ⟨b.left + n, b.right + n, b.text, b.size, b.deep⟩ else b

theorem pd_shf (t : Lm) : ∀ (o n : Nat), (t.pd o).map (shf n) = t.pd (o + n) := by
  induction t with
  | pc s => intro o n; rfl
  | jn a b iha ihb =>
    intro o n
    have ha := Lm.nb_pos a
    simp only [Lm.pd, List.map_append, List.map_cons, List.map_nil, iha, ihb]
    rw [show o + a.nb + n = o + n + a.nb by omega]
    congr 3
    unfold shf
    rw [if_pos (by show (0 : Int) ≤ ((o + a.nb : Nat) : Int) - 1; omega)]
    congr 1
    · show ((o + a.nb : Nat) : Int) - 1 + n = _; omega
    · show ((o + a.nb + b.nb : Nat) : Int) - 1 + n = _; omega

theorem pd_bd (t : Lm) : ∀ (o : Nat), ∀ b ∈ t.pd o, -1 ≤ b.left ∧ b.left ≤ o + t.nb ∧ -1 ≤ b.right ∧ b.right ≤ o + t.nb := by
  induction t with
  | pc s => intro o b hb; simp only [Lm.pd, List.mem_singleton] at hb; subst hb; simp only; omega
  | jn a b iha ihb =>
    intro o x hx
    simp only [Lm.pd, List.mem_append, List.mem_singleton] at hx
    simp only [Lm.nb]
    rcases hx with h | h | h
    · have := iha _ _ h; omega
    · have := ihb _ _ h; omega
    · subst h; simp only; omega

set_option maxRecDepth 100000 in
set_option maxHeartbeats 8000000 in
theorem l12Join_some (p q : Lm) (ga gb ca cb : Nat) (w : World) (ha : CLs w ga (encBo (p.pd 0))) (hga : ga < w.heap.size) (hca : p.nb ≤ ca ∧ ca ≤ maxLen) (hb : CLs w gb (encBo (q.pd 0))) (hgb : gb < w.heap.size) (hcb : q.nb ≤ cb ∧ cb ≤ maxLen) (hn : p.nb + q.nb ≤ 10000) (hz : p.sz + q.sz ≤ 1000000) :
    Calls Tryd.prog 70 #[.slice (some ⟨ga, 0, none⟩) p.nb ca, .slice (some ⟨gb, 0, none⟩) q.nb cb] w (OwPost w (bo (some (.jn p q)))) := by
  obtain ⟨i0, hi0, hz0, hz1, hz2⟩ := info_parts Tryd.infoBough
  unfold OwPost
  have pa := Lm.nb_pos p
  have pb := Lm.nb_pos q
  have lp := Lm.pd_len p 0
  have lq := Lm.pd_len q 0
  have HA := hide ha
  have HBq := hide hb
  have hp0 : ((p.nb : Int) == 0) = false := by rw [beq_eq_false_iff_ne]; omega
  have hq0 : ((q.nb : Int) == 0) = false := by rw [beq_eq_false_iff_ne]; omega
  have o0 := own_new w 36 #[] 0 5 rfl (by omega)
  have hnews : ∀ j u, (encBo (p.pd 0))[j]? = some u → (w.alloc (.cells #[] 36)).cell? ((⟨ga, 0, none⟩ : Addr).add j) = some u := fun j u hu => by
    rw [addr0, World.cell?_of_block (heap_alloc_old w _ hga)]
    exact ha j u hu
  have hone : ∀ u ∈ encBo (p.pd 0), u.oneCell' = true := fun u hu => by
    unfold encBo at hu
    obtain ⟨b, -, hb2⟩ := List.mem_flatMap.1 hu
    simp [bgC] at hb2
    rcases hb2 with rfl | rfl | rfl | rfl | rfl <;> rfl
  have hel : (encBo (p.pd 0)).length = p.nb * 5 := by rw [encBo_len, lp]
  go_enter Tryd.func70, Tryd.ntmps70
  go_wp2_with (at_builtin; go_loud (refine wpList_append_loc _ rfl _ _ 24 rfl w.heap.size 36 i0 (.agg #[.int .i64 0, .int .i64 0, .string ⟨#[]⟩, .int .i64 0, .int .i64 0]) 5 48 Tryd.underlying24 hi0 hz0 hz1 hz2 rfl (by decide) _ _ _ rfl o0 ⟨ga, 0, none⟩ p.nb ca (encBo (p.pd 0)) rfl hel hnews hone (by unfold maxLen; omega) (by omega) (by simp) ?_ pa); intro v3 w3 own3 grow3 loc3; have HR3 : Hid (BoOwn w3 w.heap.size v3 (p.pd 0) ∧ Below w.heap.size w w3) := hide ⟨(by unfold BoOwn; rw [lp]; rw [Nat.zero_add, List.nil_append] at own3; exact own3), grown_belowB ((Below.refl _ _).alloc (Nat.le_refl _) _) (by simp) o0 grow3⟩; clear own3 grow3 loc3)
  clear o0 hnews hone hel
  go_loopw [5, 24] (fun v vi wr => ∃ (k : Nat), k ≤ q.nb ∧ vi = .int .i64 (k : Int) ∧ ∃ v0, v0 = v ∧ Hid (BoOwn wr w.heap.size v0 (p.pd 0 ++ ((q.pd 0).take k).map (shf p.nb)) ∧ Below w.heap.size w wr)) (fun _ vi _ => q.nb - (intOf vi).toNat)
  case atStart => exact ⟨0, by omega, rfl, _, rfl, hide ⟨by rw [List.take_zero, List.map_nil, List.append_nil]; exact HR3.out.1, HR3.out.2⟩⟩
  case round =>
    clear HR3
    obtain ⟨k, hk, rfl, v, hv0, HR⟩ := hrel
    subst hv0
    have hB := HR.out.2.size
    by_cases hlt : k < q.nb
    · have hlt2 : k < (q.pd 0).length := by omega
      obtain ⟨b0, b1, b2, b3, b4⟩ := (HBq.out.later HR.out.2 hgb).bgat k hlt2
      have hbd := pd_bd q 0 _ (List.getElem_mem hlt2)
      have hll : (p.pd 0 ++ ((q.pd 0).take k).map (shf p.nb)).length = p.nb + k := by rw [List.length_append, List.length_map, List.length_take, lp]; omega
      have HT : Hid (p.pd 0 ++ ((q.pd 0).take (k + 1)).map (shf p.nb) = p.pd 0 ++ ((q.pd 0).take k).map (shf p.nb) ++ [shf p.nb (q.pd 0)[k]]) := hide (by rw [List.take_succ_eq_append_getElem hlt2, List.map_append, List.map_singleton, List.append_assoc])
      obtain ⟨x, hx⟩ : ∃ x, (q.pd 0)[k] = x := ⟨_, rfl⟩
      rw [hx] at b0 b1 b2 b3 b4 hbd HT
      obtain ⟨L, hL⟩ : ∃ L, p.pd 0 ++ ((q.pd 0).take k).map (shf p.nb) = L := ⟨_, rfl⟩
      rw [hL] at HR hll HT
      clear hx hL
      by_cases h0 : 0 ≤ x.left
      · have e0 : decide ((0 : Int) ≤ x.left) = true := decide_eq_true h0
        have ew1 : IntKind.i64.wrap (x.left + (p.nb : Int)) = x.left + (p.nb : Int) := by rw [IntKind.wrap_i64]; omega
        have ew2 : IntKind.i64.wrap (x.right + (p.nb : Int)) = x.right + (p.nb : Int) := by rw [IntKind.wrap_i64]; omega
        have HS : Hid (shf p.nb x = ⟨x.left + p.nb, x.right + p.nb, x.text, x.size, x.deep⟩) := hide (by unfold shf; rw [if_pos h0])
        have hLl : L.length ≤ 10000 := by omega
        go_wp2_with (at_builtin; go_loud (refine wpList_append_loc _ rfl _ _ 24 rfl w.heap.size 36 i0 (.agg #[.int .i64 0, .int .i64 0, .string ⟨#[]⟩, .int .i64 0, .int .i64 0]) 5 48 Tryd.underlying24 hi0 hz0 hz1 hz2 rfl (by decide) _ _ _ rfl (World.ownsRow.alloc (World.ownsRow.alloc HR.out.1 _) _) ⟨wr.heap.size + 1, 0, none⟩ 1 1 (bgC ⟨x.left + p.nb, x.right + p.nb, x.text, x.size, x.deep⟩) rfl rfl (cell5_at _ _ (by simp) _ _ _ _ _ _) (by intro u hu; simp [bgC] at hu; rcases hu with rfl | rfl | rfl | rfl | rfl <;> rfl) (by unfold maxLen; omega) (by omega) (by simp; omega) ?_); intro v5 w5 own5 grow5 loc5; have HR5 : Hid (BoOwn w5 w.heap.size v5 (p.pd 0 ++ ((q.pd 0).take (k + 1)).map (shf p.nb)) ∧ Below w.heap.size w w5) := hide ⟨(by rw [HT.out, HS.out]; exact BoOwn.app own5), below_append (HR.out.2.alloc hB _) (World.ownsRow.alloc HR.out.1 _) (by simp; omega) grow5⟩; clear own5 grow5 loc5 HR)
        exact ⟨⟨k + 1, by omega, by go_num, v5, rfl, HR5⟩, by simp [intOf]; omega⟩
      · have e0 : decide ((0 : Int) ≤ x.left) = false := decide_eq_false h0
        have HS : Hid (shf p.nb x = x) := hide (by unfold shf; rw [if_neg h0])
        have hLl : L.length ≤ 10000 := by omega
        go_wp2_with (at_builtin; go_loud (refine wpList_append_loc _ rfl _ _ 24 rfl w.heap.size 36 i0 (.agg #[.int .i64 0, .int .i64 0, .string ⟨#[]⟩, .int .i64 0, .int .i64 0]) 5 48 Tryd.underlying24 hi0 hz0 hz1 hz2 rfl (by decide) _ _ _ rfl (World.ownsRow.alloc (World.ownsRow.alloc HR.out.1 _) _) ⟨wr.heap.size + 1, 0, none⟩ 1 1 (bgC x) rfl rfl (cell5_at _ _ (by simp) _ _ _ _ _ _) (by intro u hu; simp [bgC] at hu; rcases hu with rfl | rfl | rfl | rfl | rfl <;> rfl) (by unfold maxLen; omega) (by omega) (by simp; omega) ?_); intro v5 w5 own5 grow5 loc5; have HR5 : Hid (BoOwn w5 w.heap.size v5 (p.pd 0 ++ ((q.pd 0).take (k + 1)).map (shf p.nb)) ∧ Below w.heap.size w w5) := hide ⟨(by rw [HT.out, HS.out]; exact BoOwn.app own5), below_append (HR.out.2.alloc hB _) (World.ownsRow.alloc HR.out.1 _) (by simp; omega) grow5⟩; clear own5 grow5 loc5 HR)
        exact ⟨⟨k + 1, by omega, by go_num, v5, rfl, HR5⟩, by simp [intOf]; omega⟩
    · have HE : Hid (BoOwn wr w.heap.size v (p.pd 0 ++ q.pd p.nb)) := hide (by
        have := HR.out.1
        rw [List.take_of_length_le (by omega), pd_shf, Nat.zero_add] at this
        exact this)
      have HBr := hide HR.out.2
      have hi1 : p.nb - 1 < (p.pd 0).length := by omega
      have hi2 : q.nb - 1 < (q.pd 0).length := by omega
      have r1 := (HA.out.later HR.out.2 hga).bgat (p.nb - 1) hi1
      have r2 := (HBq.out.later HR.out.2 hgb).bgat (q.nb - 1) hi2
      obtain ⟨ip, ep, kp⟩ := Lm.pd_root p 0
      obtain ⟨iq, eq, kq⟩ := Lm.pd_root q 0
      have x1 : (p.pd 0)[p.nb - 1] = p.rb 0 := (List.getElem_eq_iff _).2 (by rw [ep, List.getElem?_append_right (by omega), show p.nb - 1 - ip.length = 0 by omega]; rfl)
      have x2 : (q.pd 0)[q.nb - 1] = q.rb 0 := (List.getElem_eq_iff _).2 (by rw [eq, List.getElem?_append_right (by omega), show q.nb - 1 - iq.length = 0 by omega]; rfl)
      rw [x1] at r1
      rw [x2] at r2
      obtain ⟨a0, a1, a2, a3, a4⟩ := r1
      obtain ⟨c0, c1, c2, c3, c4⟩ := r2
      rw [(Lm.rb_is p 0).1] at a3
      rw [(Lm.rb_is p 0).2] at a4
      rw [(Lm.rb_is q 0).1] at c3
      rw [(Lm.rb_is q 0).2] at c4
      have dp1 := Lm.dp_lt p
      have dp2 := Lm.dp_lt q
      obtain ⟨i, hi⟩ : ∃ i, p.nb - 1 = i := ⟨_, rfl⟩
      obtain ⟨j, hj⟩ : ∃ j, q.nb - 1 = j := ⟨_, rfl⟩
      rw [hi] at a0 a1 a2 a3 a4
      rw [hj] at c0 c1 c2 c3 c4
      have ew1 : IntKind.i64.wrap ((p.nb : Int) - 1) = (i : Int) := by rw [IntKind.wrap_i64]; omega
      have ew2 : IntKind.i64.wrap ((q.nb : Int) - 1) = (j : Int) := by rw [IntKind.wrap_i64]; omega
      obtain ⟨A, hA⟩ : ∃ A, p.pd 0 ++ q.pd p.nb = A := ⟨_, rfl⟩
      have hAl : A.length = p.nb + q.nb := by rw [← hA, List.length_append, Lm.pd_len, Lm.pd_len]
      rw [hA] at HE
      obtain ⟨av, cv, rfl, -⟩ := own_shp HE.out
      have ew3 : IntKind.i64.wrap ((A.length : Int) - 1) = (A.length : Int) - 1 := by rw [IntKind.wrap_i64]; omega
      have ew4 : IntKind.i64.wrap ((p.sz : Int) + (q.sz : Int)) = (p.sz : Int) + (q.sz : Int) := by rw [IntKind.wrap_i64]; omega
      have hij : i < p.nb ∧ j < q.nb := by omega
      obtain ⟨hi5, hj5⟩ := hij
      have HPD : Hid (∀ m : Int, m = ((max p.dp q.dp : Nat) : Int) → bo (some (.jn p q)) = A ++ [⟨(i : Int), (A.length : Int) - 1, ⟨#[]⟩, (p.sz : Int) + (q.sz : Int), m + 1⟩]) := hide (fun m hm => by
        show Lm.pd 0 (.jn p q) = _
        simp only [Lm.pd]
        rw [← hA, hm, Nat.zero_add, List.append_assoc]
        congr 4
        · omega
        · rw [List.length_append, Lm.pd_len, Lm.pd_len])
      have hAl2 : A.length ≤ 10000 := by omega
      clear HR hi hj hA hAl x1 x2 ep eq kp kq hi1 hi2
      have cc : ∀ (o : Obj) (n : Nat), (wr.alloc o).cell? ⟨gb, n, none⟩ = wr.cell? ⟨gb, n, none⟩ := fun o n => World.cell?_of_block (heap_alloc_old wr o (by show gb < _; omega))
      by_cases hd : p.dp < q.dp
      · have ed : decide ((p.dp : Int) < (q.dp : Int)) = true := by rw [decide_eq_true_iff]; omega
        go_wp2_with (at_builtin; go_loud (refine wpList_append_loc _ rfl _ _ 24 rfl w.heap.size 36 i0 (.agg #[.int .i64 0, .int .i64 0, .string ⟨#[]⟩, .int .i64 0, .int .i64 0]) 5 48 Tryd.underlying24 hi0 hz0 hz1 hz2 rfl (by decide) _ _ _ rfl (World.ownsRow.alloc (World.ownsRow.alloc (World.ownsRow.alloc HE.out _) _) _) ⟨wr.heap.size + 1 + 1, 0, none⟩ 1 1 (bgC ⟨(i : Int), (A.length : Int) - 1, ⟨#[]⟩, (p.sz : Int) + (q.sz : Int), (q.dp : Int) + 1⟩) rfl rfl (cell5_at _ _ (by simp) _ _ _ _ _ _) (by intro u hu; simp [bgC] at hu; rcases hu with rfl | rfl | rfl | rfl | rfl <;> rfl) (by unfold maxLen; omega) (by omega) (by simp; omega) ?_); intro v5 w5 own5 grow5 loc5; have HR5 : Hid (BoOwn w5 w.heap.size v5 (bo (some (.jn p q))) ∧ Below w.heap.size w w5) := hide ⟨(by rw [HPD.out (q.dp : Int) (by omega)]; exact BoOwn.app own5), below_append ((HBr.out.alloc hB _).alloc (by simp; omega) _) (World.ownsRow.alloc (World.ownsRow.alloc HE.out _) _) (by simp; omega) grow5⟩; clear own5 grow5 loc5 HE)
        go_ret
        exact ⟨v5, rfl, HR5.out.1, HR5.out.2⟩
      · have ed : decide ((p.dp : Int) < (q.dp : Int)) = false := by rw [decide_eq_false_iff_not]; omega
        go_wp2_with (at_builtin; go_loud (refine wpList_append_loc _ rfl _ _ 24 rfl w.heap.size 36 i0 (.agg #[.int .i64 0, .int .i64 0, .string ⟨#[]⟩, .int .i64 0, .int .i64 0]) 5 48 Tryd.underlying24 hi0 hz0 hz1 hz2 rfl (by decide) _ _ _ rfl (World.ownsRow.alloc (World.ownsRow.alloc (World.ownsRow.alloc HE.out _) _) _) ⟨wr.heap.size + 1 + 1, 0, none⟩ 1 1 (bgC ⟨(i : Int), (A.length : Int) - 1, ⟨#[]⟩, (p.sz : Int) + (q.sz : Int), (p.dp : Int) + 1⟩) rfl rfl (cell5_at _ _ (by simp) _ _ _ _ _ _) (by intro u hu; simp [bgC] at hu; rcases hu with rfl | rfl | rfl | rfl | rfl <;> rfl) (by unfold maxLen; omega) (by omega) (by simp; omega) ?_); intro v5 w5 own5 grow5 loc5; have HR5 : Hid (BoOwn w5 w.heap.size v5 (bo (some (.jn p q))) ∧ Below w.heap.size w w5) := hide ⟨(by rw [HPD.out (p.dp : Int) (by omega)]; exact BoOwn.app own5), below_append ((HBr.out.alloc hB _).alloc (by simp; omega) _) (World.ownsRow.alloc (World.ownsRow.alloc HE.out _) _) (by simp; omega) grow5⟩; clear own5 grow5 loc5 HE)
        go_ret
        exact ⟨v5, rfl, HR5.out.1, HR5.out.2⟩

set_option maxRecDepth 100000 in
set_option maxHeartbeats 4000000 in
theorem l12Join_any (x y : Option Lm) (a b : Option Addr) (ca cb : Nat) (w : World) (ha : BoIn w a ca (bo x)) (hb : BoIn w b cb (bo y)) (hn : nbO x + nbO y ≤ 10000) (hz : szO x + szO y ≤ 1000000) :
    Calls Tryd.prog 70 #[.slice a (bo x).length ca, .slice b (bo y).length cb] w (BiPost w (bo (jo x y))) := by
  cases x with
  | none =>
    rw [show (bo none).length = 0 from rfl]
    rw [show jo none y = y from rfl]
    unfold BiPost
    have hle := hb.le
    have hmx := hb.mx
    unfold maxLen at hmx
    have HB := hide hb
    obtain ⟨L, hL⟩ : ∃ L, bo y = L := ⟨_, rfl⟩
    rw [hL] at HB hle ⊢
    clear ha hb hL
    go_enter Tryd.func70, Tryd.ntmps70
    go_wp2
    go_ret
    exact ⟨b, cb, rfl, HB.out, Below.refl _ _⟩
  | some p =>
    have lp : (bo (some p)).length = p.nb := Lm.pd_len p 0
    have pp := Lm.nb_pos p
    have hp0 : ((p.nb : Int) == 0) = false := by rw [beq_eq_false_iff_ne]; omega
    cases y with
    | none =>
      rw [show (bo none).length = 0 from rfl, jo_none]
      unfold BiPost
      have hle := ha.le
      have hmx := ha.mx
      unfold maxLen at hmx
      have HA := hide ha
      rw [lp]
      rw [lp] at hle
      simp only [nbO] at hn
      clear ha hb
      go_enter Tryd.func70, Tryd.ntmps70
      go_wp2
      go_ret
      exact ⟨a, ca, rfl, HA.out, Below.refl _ _⟩
    | some q =>
      have lq : (bo (some q)).length = q.nb := Lm.pd_len q 0
      obtain ⟨ga, rfl, hga, hca⟩ := ha.ad (pd_ne p 0)
      obtain ⟨gb, rfl, hgb, hcb⟩ := hb.ad (pd_ne q 0)
      rw [lp, lq]
      exact (fun h => h.mono (fun _ _ k => OwPost.bi k)) (l12Join_some p q ga gb ca cb w hca hga ⟨by rw [← lp]; exact ha.le, ha.mx⟩ hcb hgb ⟨by rw [← lq]; exact hb.le, hb.mx⟩ hn hz)
end Go.Proofs.YtkjioadmebkaoaaDoor

set_option linter.unusedVariables false
namespace Go.Proofs.YtkjioadmebkaoaaDoor
open Go.RowKit
open Doc1

theorem cutS_low (g off n cap k : Nat) (h : k ≤ cap) (w : World) : (Instr.slice 63 (.slice (some ⟨g, off, none⟩) n cap) none (some (.int .i64 (k : Int))) none).run Tryd.prog w = .ok (.slice (some ⟨g, off, none⟩) k cap) w := by
  simp [go_sem, Tryd.underlying63, h]

theorem cutS_high (g off n cap k : Nat) (h : k ≤ n) (h2 : k < cap) (w : World) : (Instr.slice 63 (.slice (some ⟨g, off, none⟩) n cap) (some (.int .i64 (k : Int))) none none).run Tryd.prog w = .ok (.slice (some ⟨g, off + k, none⟩) (n - k) (cap - k)) w := by
  have : ¬ cap = k := by omega
  simp [go_sem, Tryd.underlying63, h, this]

theorem evn_some {l : List ByteArray} (h : 0 < l.length) : ∃ t, evn l = some t := by
  have := evn_pc _ l rfl
  cases hh : evn l with
  | none => rw [hh] at this; rw [← this] at h; simp [pcO] at h
  | some t => exact ⟨t, rfl⟩

set_option maxRecDepth 100000 in
set_option maxHeartbeats 4000000 in
theorem l12Build_none (a : Option Addr) (cap : Nat) (w : World) :
    Calls Tryd.prog 61 #[.slice a 0 cap] w (OwPost w []) := by
  unfold OwPost
  go_enter Tryd.func61, Tryd.ntmps61
  go_wp2
  go_ret
  exact ⟨_, rfl, World.ownsRow_nil _ _ _ _, Below.refl _ _⟩

set_option maxRecDepth 100000 in
set_option maxHeartbeats 4000000 in
theorem l12Build_some (n : Nat) : ∀ (l : List ByteArray) (g off cap : Nat) (w : World), l.length = n → 0 < n → StAt w g off l → g < w.heap.size → l.length ≤ cap → cap ≤ maxLen → l.length ≤ 4000 → tot l ≤ 100000 →
    Calls Tryd.prog 61 #[.slice (some ⟨g, off, none⟩) l.length cap] w (OwPost w (bo (evn l))) := by
  induction n using Nat.strongRecOn with
  | ind n ih =>
    intro l g off cap w hn h0 hs hg hc hm hl ht
    by_cases h1 : l.length = 1
    · have c0 := hs 0 (by omega)
      rw [Nat.add_zero] at c0
      have e : evn l = some (.pc l[0]) := by
        rw [evn, dif_neg (by omega), dif_pos h1, List.getD_eq_getElem?_getD, List.getElem?_eq_getElem (by omega)]
        rfl
      rw [e]
      have hz0 := tot_at (l := l) (k := 0) (by omega)
      have P := hide (l12Piece_any l[0] w (by omega))
      obtain ⟨s0, hs0⟩ : ∃ s0, l[0] = s0 := ⟨_, rfl⟩
      rw [hs0] at c0 P ⊢
      rw [h1]
      unfold OwPost at P ⊢
      clear ih e hs0 hz0
      go_enter Tryd.func61, Tryd.ntmps61
      go_wp2_with fail
      refine P.out.mono ?_
      rintro e w2 ⟨v2, rfl, hi, hb⟩
      go_wp2
      go_ret
      exact ⟨v2, rfl, hi, hb⟩
    · obtain ⟨k, hk⟩ : ∃ k, k = (l.length + 1) / 2 := ⟨_, rfl⟩
      have e : evn l = jo (evn (l.take k)) (evn (l.drop k)) := by
        rw [evn, dif_neg (by omega), dif_neg h1, ← hk]
      rw [e]
      have hk1 : 0 < k := by omega
      have hk2 : k < l.length := by omega
      have l1 : (l.take k).length = k := by rw [List.length_take]; omega
      have l2 : (l.drop k).length = l.length - k := List.length_drop
      have ht2 := tot_take_drop l k
      have A1 := hide (fun w' (hb : Below w.heap.size w w') => ih k (by omega) (l.take k) g off cap w' l1 (by omega) ((hs.take k).later hb hg) (Nat.lt_of_lt_of_le hg hb.size) (by omega) hm (by omega) (by omega))
      have A2 := hide (fun w' (hb : Below w.heap.size w w') => ih (l.length - k) (by omega) (l.drop k) g (off + k) (cap - k) w' l2 (by omega) ((hs.drop k).later hb hg) (Nat.lt_of_lt_of_le hg hb.size) (by omega) (by omega) (by omega) (by omega))
      rw [l1] at A1
      rw [l2] at A2
      have z1 := szO_evn (l.take k)
      have z2 := szO_evn (l.drop k)
      have y1 := nbO_evn (l.take k)
      have y2 := nbO_evn (l.drop k)
      rw [l1] at y1
      rw [l2] at y2
      obtain ⟨p, hoa⟩ := evn_some (l := l.take k) (by omega)
      obtain ⟨q, hob⟩ := evn_some (l := l.drop k) (by omega)
      rw [hoa] at A1 z1 y1 ⊢
      rw [hob] at A2 z2 y2 ⊢
      simp only [szO, nbO] at z1 z2 y1 y2
      have JL := hide (fun ga gb ca cb w' ha hga hca hb hgb hcb => l12Join_some p q ga gb ca cb w' ha hga hca hb hgb hcb (by omega) (by omega))
      unfold OwPost at A1 A2 JL ⊢
      obtain ⟨vr, hvr⟩ : ∃ vr, bo (some (.jn p q)) = vr := ⟨_, rfl⟩
      rw [show jo (some p) (some q) = some (.jn p q) from rfl]
      rw [hvr] at JL ⊢
      have lp : (bo (some p)).length = p.nb := Lm.pd_len p 0
      have lq : (bo (some q)).length = q.nb := Lm.pd_len q 0
      have HLP := hide (And.intro lp lq)
      have hcl := cutS_low g off l.length cap k (by omega)
      have hch := cutS_high g off l.length cap k (by omega) (by omega)
      have hq1 : IntKind.i64.wrap ((l.length : Int) + 1) = (l.length : Int) + 1 := by rw [IntKind.wrap_i64]; omega
      have HK := hide hk
      clear ih e hs hoa hob hvr lp lq l1 l2 z1 z2 y1 y2 ht2 hn h0 ht hk
      go_enter Tryd.func61, Tryd.ntmps61
      go_wp2
      rw [show ((l.length : Int) + 1) / 2 = (k : Int) by have := HK.out; omega]
      have hbz : (0 : Int) ≤ (k : Int) ∧ (k : Int) ≤ (cap : Int) ∧ k < cap ∧ k ≤ l.length := by omega
      clear hq1 hk1 hk2 h1 hc hm hl
      obtain ⟨hb0, hb1, hb2, hb3⟩ := hbz
      go_region_held3 (fun w' => True) (trivial)
        (first
          | (go_at_call 70; refine (JL.out _ _ _ _ wb (HIA.out.2.2.2.later hbb HIA.out.1) (Nat.lt_of_lt_of_le HIA.out.1 hbb.size) HIA.out.2.1 HIB.out.2.2.2 HIB.out.1 HIB.out.2.1).mono ?_; rintro e wc ⟨v3, rfl, hi3, hbc⟩; have hbx3 : Below w.heap.size w wc := hbx2.trans (hbc.mono hbx2.size))
          | (go_at_call 61; refine (A2.out _ hbx1).mono ?_; rintro e wb ⟨v2, rfl, hi2, hbb⟩; obtain ⟨g2, c2, rfl, k1, k2, k3, k4, k5, -⟩ := BoOwn.shape hi2 (pd_ne q 0); have HIB := hide (And.intro k4 (And.intro (And.intro (HLP.out.2 ▸ k1) k2) (And.intro trivial k5))); have hbx2 : Below w.heap.size w wb := hbx1.trans (hbb.mono hbx1.size); rw [HLP.out.2]; clear hi2 k1 k2 k3 k4 k5)
          | (go_at_call 61; refine (A1.out _ (Below.refl _ _).drew).mono ?_; rintro e wa ⟨v1, rfl, hi1, hba⟩; obtain ⟨g1, c1, rfl, k1, k2, k3, k4, k5, -⟩ := BoOwn.shape hi1 (pd_ne p 0); have HIA := hide (And.intro k4 (And.intro (And.intro (HLP.out.1 ▸ k1) k2) (And.intro trivial k5))); have hbx1 : Below w.heap.size w wa := (Below.refl _ _).drew.trans hba; rw [HLP.out.1]; clear hi1 k1 k2 k3 k4 k5))
      go_wp2
      go_ret
      exact ⟨v3, rfl, own_mono hi3 hbx2.size, hbx3⟩

/-- A row of texts that is read. -/
theorem TxOwn.at' {w : World} {B : Nat} {v : Value} {l : List ByteArray} (h : TxOwn w B v l) : ∃ a cap, v = .slice a l.length cap ∧ l.length ≤ cap ∧ cap ≤ maxLen ∧ ∀ i (hi : i < l.length), ∃ g, a = some ⟨g, 0, none⟩ ∧ g < w.heap.size ∧ w.cell? ⟨g, i, none⟩ = some (.string l[i]) := by
  unfold TxOwn at h
  obtain ⟨a, cap, rfl, k1, k2⟩ := own_shp h
  refine ⟨a, cap, rfl, k1, k2, fun i hi => ?_⟩
  obtain ⟨g, cc, e, -, -, -, z, -⟩ := own_open h (by omega)
  simp only [Value.slice.injEq] at e
  obtain ⟨e1, -, -⟩ := e
  subst e1
  refine ⟨g, rfl, z, ?_⟩
  rw [World.ownsRow.cellAt h i (by omega)]
  simp [stC, hi]

theorem l12Build_own {w : World} {B : Nat} {v : Value} {l : List ByteArray} (h : TxOwn w B v l) (hl : l.length ≤ 4000) (ht : tot l ≤ 100000) :
    Calls Tryd.prog 61 #[v] w (OwPost w (bo (evn l))) := by
  obtain ⟨a, cap, rfl, k1, k2, hc⟩ := h.at'
  by_cases h0 : l.length = 0
  · have e : evn l = none := by rw [evn, dif_pos h0]
    rw [h0, e]
    exact l12Build_none a cap w
  · obtain ⟨g, rfl, hg, -⟩ := hc 0 (by omega)
    exact l12Build_some l.length l g 0 cap w rfl (by omega) (fun i hi => by
      obtain ⟨g', e, -, c⟩ := hc i hi
      cases e
      rw [Nat.zero_add]
      exact c) hg k1 k2 (by omega) (by omega)

set_option maxRecDepth 100000 in
set_option maxHeartbeats 4000000 in
theorem l12Cut_any (s : ByteArray) (w : World) (hs : s.size ≤ 100000) :
    Calls Tryd.prog 62 #[.string s] w fun e w' => ∃ v, e = .returned v ∧ TxOwn w' w.heap.size v (cutL s) ∧ Below w.heap.size w w' := by
  obtain ⟨i0, hi0, hz0, hz1, hz2⟩ := info_parts Tryd.infoStr
  go_enter Tryd.func62, Tryd.ntmps62
  go_wp2
  go_loopw [0, 3] (fun vs v wr => ∃ (k : Nat) (t : ByteArray), 8 * k ≤ s.size ∧ (k = 0 ∨ 8 * k < s.size) ∧ vs = .string t ∧ t.size = s.size - 8 * k ∧ Hid (t = s.extract (8 * k) s.size) ∧ ∃ v0, v0 = v ∧ Hid (TxOwn wr w.heap.size v0 ((List.range k).map (cutP s)) ∧ Below w.heap.size w wr)) (fun vs _ _ => match vs with | .string t => t.size | _ => 0)
  case atStart => exact ⟨0, s, by omega, .inl rfl, rfl, by omega, hide (by rw [Nat.mul_zero, ByteArray.extract_zero_size]), _, rfl, hide ⟨World.ownsRow_nil _ _ _ _, Below.refl _ _⟩⟩
  case round =>
    obtain ⟨k, t, hk, hk2, rfl, htz, HT, v, hv0, HR⟩ := hrel
    subst hv0
    have hB := HR.out.2.size
    have hrl : ((List.range k).map (cutP s)).length = k := by simp
    by_cases hlt : 8 < t.size
    · have e0 : decide ((8 : Int) < (t.size : Int)) = true := by rw [decide_eq_true_iff]; omega
      have HC : Hid (t.extract 0 8 = cutP s k) := hide (by
        apply Doc1.ba_eq
        unfold cutP
        have hall : s.data.toList.take s.size = s.data.toList := List.take_of_length_le (by rw [← szB]; exact Nat.le_refl _)
        rw [HT.out, ext_list, ext_list, ext_list, List.drop_zero, Nat.min_eq_left (by omega), hall, List.drop_take, show 8 * k + 8 - 8 * k = 8 by omega])
      have HN : Hid (t.extract 8 t.size = s.extract (8 * (k + 1)) s.size) := hide (by
        apply Doc1.ba_eq
        rw [ext_list, ext_list, List.take_of_length_le (by rw [← szB]; omega), List.take_of_length_le (by rw [← szB]; omega), HT.out, ext_list, List.take_of_length_le (by rw [← szB]; omega), List.drop_drop, show 8 * k + 8 = 8 * (k + 1) by omega])
      have hb8 : (8 : Int) ≤ (t.size : Int) := by omega
      have hxs : (t.extract 8 t.size).size = t.size - 8 := by rw [ByteArray.size_extract]; omega
      have HX := hide (And.intro hxs htz)
      have htb : t.size ≤ 100000 := by omega
      have hkb : k ≤ 100000 := by omega
      clear hxs htz
      go_wp2_with (at_builtin; go_loud (refine wpList_append_loc _ rfl _ _ 63 rfl w.heap.size 9 i0 (.string ⟨#[]⟩) 1 16 Tryd.underlying63 hi0 hz0 hz1 hz2 rfl (by decide) _ _ _ rfl (World.ownsRow.alloc HR.out.1 _) ⟨wr.heap.size, 0, none⟩ 1 1 [.string (t.extract 0 8)] rfl rfl (World.news_of_block (cs := #[.string (t.extract 0 8)]) (t := 9) (fr := (0, 0)) (heap_alloc_new wr _)) (by simp [Value.oneCell']) (by unfold maxLen; omega) (by omega) (by simp; omega) ?_); intro v5 w5 own5 grow5 loc5; have HR5 : Hid (TxOwn w5 w.heap.size v5 ((List.range (k + 1)).map (cutP s)) ∧ Below w.heap.size w w5) := hide ⟨(by rw [List.range_succ, List.map_append, List.map_singleton, ← HC.out]; exact TxOwn.app own5), below_append HR.out.2 HR.out.1 hB grow5⟩; clear own5 grow5 loc5 HR)
      obtain ⟨hxs, htz⟩ := HX.out
      exact ⟨⟨k + 1, _, by omega, .inr (by omega), rfl, by omega, HN, v5, rfl, HR5⟩, by simp only; omega⟩
    · have e0 : decide ((8 : Int) < (t.size : Int)) = false := by rw [decide_eq_false_iff_not]; omega
      by_cases h0 : t.size = 0
      · have he : t.toList.isEmpty = true := by rw [Lib.toList_data, List.isEmpty_iff_length_eq_zero, ← szB]; exact h0
        have HE : Hid ((List.range k).map (cutP s) = cutL s) := hide (by unfold cutL cutN; rw [show k = (s.size + 7) / 8 by omega])
        go_wp2
        go_ret
        exact ⟨v, rfl, by rw [← HE.out]; exact HR.out.1, HR.out.2⟩
      · have he : t.toList.isEmpty = false := by rw [Lib.toList_data, List.isEmpty_eq_false_iff, ← List.length_pos_iff, ← szB]; omega
        have HE : Hid ((List.range k).map (cutP s) ++ [t] = cutL s) := hide (by
          have e1 : t = cutP s k := by
            unfold cutP
            rw [HT.out, Nat.min_eq_right (by omega)]
          unfold cutL cutN
          rw [show (s.size + 7) / 8 = k + 1 by omega, List.range_succ, List.map_append, List.map_singleton, ← e1])
        go_wp2_with (at_builtin; go_loud (refine wpList_append_loc _ rfl _ _ 63 rfl w.heap.size 9 i0 (.string ⟨#[]⟩) 1 16 Tryd.underlying63 hi0 hz0 hz1 hz2 rfl (by decide) _ _ _ rfl (World.ownsRow.alloc HR.out.1 _) ⟨wr.heap.size, 0, none⟩ 1 1 [.string t] rfl rfl (World.news_of_block (cs := #[.string t]) (t := 9) (fr := (0, 0)) (heap_alloc_new wr _)) (by simp [Value.oneCell']) (by unfold maxLen; omega) (by omega) (by simp; omega) ?_); intro v5 w5 own5 grow5 loc5; have HR5 : Hid (TxOwn w5 w.heap.size v5 (cutL s) ∧ Below w.heap.size w w5) := hide ⟨(by rw [← HE.out]; exact TxOwn.app own5), below_append HR.out.2 HR.out.1 hB grow5⟩; clear own5 grow5 loc5 HR)
        go_ret
        exact ⟨v5, rfl, HR5.out.1, HR5.out.2⟩
end Go.Proofs.YtkjioadmebkaoaaDoor

set_option linter.unusedVariables false
namespace Go.Proofs.YtkjioadmebkaoaaDoor
open Go.RowKit
open Doc1

/-- The pieces among boughs. -/
def pcsL (l : List Bg) : List ByteArray := (l.filter fun b => decide (b.left < 0)).map (·.text)

theorem pcsL_app (a b : List Bg) : pcsL (a ++ b) = pcsL a ++ pcsL b := by simp [pcsL]

theorem pcsL_pd (t : Lm) : ∀ o, pcsL (t.pd o) = t.pcs := by
  induction t with
  | pc s => intro o; rfl
  | jn a b iha ihb =>
    intro o
    have := Lm.nb_pos a
    simp only [Lm.pd, pcsL_app, iha, ihb, Lm.pcs]
    have e : pcsL [(⟨((o + a.nb : Nat) : Int) - 1, ((o + a.nb + b.nb : Nat) : Int) - 1, eT, ((a.sz + b.sz : Nat) : Int), ((max a.dp b.dp + 1 : Nat) : Int)⟩ : Bg)] = [] := by
      unfold pcsL
      rw [List.filter_cons, if_neg (by simp only [decide_eq_true_eq]; omega)]
      rfl
    rw [e, List.append_nil]

theorem pcsL_bo (o : Option Lm) : pcsL (bo o) = pcO o := by
  cases o with
  | none => rfl
  | some t => exact pcsL_pd t 0

theorem pcsL_len (l : List Bg) : (pcsL l).length ≤ l.length := by unfold pcsL; rw [List.length_map]; exact List.length_filter_le _ _

set_option maxRecDepth 100000 in
set_option maxHeartbeats 4000000 in
theorem l12Pieces_any {w : World} {a : Option Addr} {cap : Nat} {l : List Bg} (h : BoIn w a cap l) (hl : l.length ≤ 100000) :
    Calls Tryd.prog 85 #[.slice a l.length cap] w fun e w' => ∃ v, e = .returned v ∧ TxOwn w' w.heap.size v (pcsL l) ∧ Below w.heap.size w w' := by
  obtain ⟨i0, hi0, hz0, hz1, hz2⟩ := info_parts Tryd.infoStr
  have HI := hide h
  have hcl := h.le
  have hcm := h.mx
  unfold maxLen at hcm
  clear h
  go_enter Tryd.func85, Tryd.ntmps85
  go_wp2
  go_loopw [3, 8] (fun v vi wr => ∃ (k : Nat), k ≤ l.length ∧ vi = .int .i64 (k : Int) ∧ ∃ v0, v0 = v ∧ Hid (TxOwn wr w.heap.size v0 (pcsL (l.take k)) ∧ Below w.heap.size w wr)) (fun _ vi _ => l.length - (intOf vi).toNat)
  case atStart => exact ⟨0, by omega, rfl, _, rfl, hide ⟨World.ownsRow_nil _ _ _ _, Below.refl _ _⟩⟩
  case round =>
    obtain ⟨k, hk, rfl, v, hv0, HR⟩ := hrel
    subst hv0
    by_cases hlt : k < l.length
    · have hne : l ≠ [] := fun c => by rw [c] at hlt; simp at hlt
      obtain ⟨g, rfl, hg, hcs⟩ := (HI.out.later HR.out.2).ad hne
      obtain ⟨b0, b1, b2, b3, b4⟩ := hcs.bgat k hlt
      have hB := HR.out.2.size
      have hpl := pcsL_len (l.take k)
      rw [List.length_take] at hpl
      have HT : Hid (pcsL (l.take (k + 1)) = pcsL (l.take k) ++ pcsL [l[k]]) := hide (by rw [List.take_succ_eq_append_getElem hlt, pcsL_app])
      obtain ⟨x, hx⟩ : ∃ x, l[k] = x := ⟨_, rfl⟩
      rw [hx] at b0 b1 b2 b3 b4 HT
      clear hcs hx
      by_cases h0 : x.left < 0
      · have e0 : decide (x.left < 0) = true := decide_eq_true h0
        have HS : Hid (pcsL [x] = [x.text]) := hide (by unfold pcsL; rw [List.filter_cons, if_pos (by simpa using h0)]; rfl)
        go_wp2_with (at_builtin; go_loud (refine wpList_append_loc _ rfl _ _ 63 rfl w.heap.size 9 i0 (.string ⟨#[]⟩) 1 16 Tryd.underlying63 hi0 hz0 hz1 hz2 rfl (by decide) _ _ _ rfl (World.ownsRow.alloc (World.ownsRow.alloc HR.out.1 _) _) ⟨wr.heap.size + 1, 0, none⟩ 1 1 [.string x.text] rfl rfl (cell_two_new wr _ _ _) (by simp [Value.oneCell']) (by unfold maxLen; omega) (by omega) (by simp; omega) ?_); intro v5 w5 own5 grow5 loc5; have HR5 : Hid (TxOwn w5 w.heap.size v5 (pcsL (l.take (k + 1))) ∧ Below w.heap.size w w5) := hide ⟨(by rw [HT.out, HS.out]; exact TxOwn.app own5), below_append (HR.out.2.alloc hB _) (World.ownsRow.alloc HR.out.1 _) (by simp; omega) grow5⟩; clear own5 grow5 loc5 HR)
        exact ⟨⟨k + 1, by omega, by go_num, v5, rfl, HR5⟩, by simp [intOf]; omega⟩
      · have e0 : decide (x.left < 0) = false := decide_eq_false h0
        have HS : Hid (pcsL [x] = []) := hide (by unfold pcsL; rw [List.filter_cons, if_neg (by simpa using h0)]; rfl)
        have HR5 : Hid (∀ o, TxOwn (wr.alloc o) w.heap.size v (pcsL (l.take (k + 1))) ∧ Below w.heap.size w (wr.alloc o)) := hide (fun o => ⟨by rw [HT.out, HS.out, List.append_nil]; exact World.ownsRow.alloc HR.out.1 _, HR.out.2.alloc hB _⟩)
        clear HR
        go_wp2
        exact ⟨⟨k + 1, by omega, by go_num, v, rfl, hide (HR5.out _)⟩, by simp [intOf]; omega⟩
    · have HE : Hid (TxOwn wr w.heap.size v (pcsL l) ∧ Below w.heap.size w wr) := hide (by
        have := HR.out
        rw [List.take_of_length_le (by omega)] at this
        exact this)
      clear HR
      go_wp2
      go_ret
      exact ⟨v, rfl, HE.out.1, HE.out.2⟩

set_option maxRecDepth 100000 in
set_option maxHeartbeats 4000000 in
theorem l12Text_any {w : World} {a : Option Addr} {cap : Nat} {l : List Bg} (h : BoIn w a cap l) (hl : l.length ≤ 100000) (ht : tot (pcsL l) ≤ 10000) :
    Calls Tryd.prog 79 #[.slice a l.length cap] w fun e w' => e = .returned (.string (catB (pcsL l))) ∧ Below w.heap.size w w' := by
  have P := hide (l12Pieces_any h hl)
  have hpl := pcsL_len l
  obtain ⟨Q, hQ⟩ : ∃ Q, pcsL l = Q := ⟨_, rfl⟩
  rw [hQ] at P ht hpl ⊢
  have hcl := h.le
  have hcm := h.mx
  unfold maxLen at hcm
  clear h hQ
  go_enter Tryd.func79, Tryd.ntmps79
  go_wp2_with fail
  refine P.out.mono ?_
  rintro e w2 ⟨v2, rfl, own2, hb2⟩
  obtain ⟨a2, c2, rfl, k1, k2, hc⟩ := own2.at'
  have HC := hide hc
  have HB2 := hide hb2
  have hs2 := hb2.size
  clear own2 hc hb2 P
  go_wp2
  go_loopw [3, 9] (fun v vi wr => ∃ (k : Nat) (t : ByteArray), k ≤ Q.length ∧ vi = .int .i64 (k : Int) ∧ v = .string t ∧ t.size ≤ 10000 ∧ Hid (t = catB (Q.take k)) ∧ Hid (Below w2.heap.size w2 wr)) (fun _ vi _ => Q.length - (intOf vi).toNat)
  case atStart => exact ⟨0, ⟨#[]⟩, by omega, rfl, rfl, Nat.zero_le _, hide rfl, hide (Below.refl _ _)⟩
  case round =>
    obtain ⟨k, t, hk, rfl, rfl, htz, HT, HB⟩ := hrel
    by_cases hlt : k < Q.length
    · obtain ⟨g, rfl, hg, c⟩ := HC.out k hlt
      have c1 : wr.cell? ⟨g, k, none⟩ = some (.string Q[k]) := (World.cell?_of_block (HB.out.block g hg)).trans c
      have hq := tot_at hlt
      have HN : Hid (t ++ Q[k] = catB (Q.take (k + 1)) ∧ (t ++ Q[k]).size ≤ 10000) := hide (by
        have e : t ++ Q[k] = catB (Q.take (k + 1)) := by rw [List.take_succ_eq_append_getElem hlt, catB_snoc, HT.out]
        refine ⟨e, ?_⟩
        rw [e, catB_size]
        have := tot_take_drop Q (k + 1)
        omega)
      obtain ⟨x, hx⟩ : ∃ x, Q[k] = x := ⟨_, rfl⟩
      rw [hx] at c1 hq HN
      have hxz : x.size ≤ 10000 := by omega
      clear c hx hq
      go_wp2
      exact ⟨⟨k + 1, t ++ x, by omega, by go_num, rfl, HN.out.2, hide HN.out.1, HB⟩, by simp [intOf]; omega⟩
    · have HE : Hid (catB Q = t) := hide (by rw [HT.out, List.take_of_length_le (by omega)])
      go_wp2
      go_ret
      exact ⟨by rw [HE.out] <;> rfl, HB2.out.trans (HB.out.mono hs2)⟩

def lastZ (l : List Bg) : Int := (l.getLast?.map (·.size)).getD 0

theorem lastZ_bo (o : Option Lm) : lastZ (bo o) = (szO o : Int) := by
  cases o with
  | none => rfl
  | some t =>
    obtain ⟨i, e, -⟩ := Lm.pd_root t 0
    show lastZ (t.pd 0) = _
    unfold lastZ
    rw [e, List.getLast?_concat]
    exact (Lm.rb_is t 0).1

set_option maxRecDepth 100000 in
set_option maxHeartbeats 4000000 in
theorem l12Size_any {w : World} {a : Option Addr} {cap : Nat} {l : List Bg} (h : BoIn w a cap l) (hl : l.length ≤ 10000000) :
    Calls Tryd.prog 74 #[.slice a l.length cap] w fun e w' => e = .returned (.int .i64 (lastZ l)) ∧ w' = w := by
  have hcl := h.le
  have hcm := h.mx
  unfold maxLen at hcm
  by_cases h0 : l = []
  · subst h0
    rw [show ([] : List Bg).length = 0 from rfl, show lastZ [] = 0 from rfl]
    clear h
    go_enter Tryd.func74, Tryd.ntmps74
    go_wp2
    go_ret
    exact ⟨rfl, rfl⟩
  · have hp := List.length_pos_iff.2 h0
    obtain ⟨g, rfl, hg, hc⟩ := h.ad h0
    obtain ⟨n, hn⟩ : ∃ n, l.length = n + 1 := ⟨l.length - 1, by omega⟩
    have c3 := (hc.bgat n (by omega)).2.2.2.1
    have e : lastZ l = l[n].size := by
      unfold lastZ
      rw [List.getLast?_eq_getElem?, show l.length - 1 = n by omega, List.getElem?_eq_getElem (by omega)]
      rfl
    rw [← e] at c3
    have ew : IntKind.i64.wrap (((n + 1 : Nat) : Int) - 1) = (n : Int) := by rw [IntKind.wrap_i64]; omega
    have hl0 : (((n + 1 : Nat) : Int) == 0) = false := by rw [beq_eq_false_iff_ne]; omega
    obtain ⟨z, hz⟩ : ∃ z, lastZ l = z := ⟨_, rfl⟩
    rw [hz] at c3 ⊢
    rw [hn] at hcl ⊢
    obtain ⟨m, hm⟩ : ∃ m, n + 1 = m := ⟨_, rfl⟩
    rw [hm] at ew hl0 hcl ⊢
    have hnm : n < m := by omega
    clear e hn hz hc h hm
    go_enter Tryd.func74, Tryd.ntmps74
    go_wp2
    go_ret
    exact ⟨rfl, rfl⟩
end Go.Proofs.YtkjioadmebkaoaaDoor

set_option linter.unusedVariables false
namespace Go.Proofs.YtkjioadmebkaoaaDoor
open Go.RowKit
open Doc1

/-- A tree's boughs stand in a row of boughs, from a place up to another. -/
inductive SG (l : List Bg) : Nat → Nat → Lm → Prop
  | pc {f : Nat} {s : ByteArray} : l[f]? = some ⟨-1, -1, s, (s.size : Nat), 0⟩ → gpc s = true → SG l f (f + 1) (.pc s)
  | jn {f m e : Nat} {a b : Lm} : SG l f m a → SG l m e b → l[e]? = some ⟨(m : Int) - 1, (e : Int) - 1, eT, ((a.sz + b.sz : Nat) : Int), ((max a.dp b.dp + 1 : Nat) : Int)⟩ → SG l f (e + 1) (.jn a b)

theorem SG.lt {l : List Bg} {f e : Nat} {t : Lm} (h : SG l f e t) : e = f + t.nb ∧ e ≤ l.length ∧ t.gd := by
  induction h with
  | pc h1 h2 => exact ⟨rfl, (List.getElem?_eq_some_iff.1 h1).1, gd_pc.2 h2⟩
  | jn h1 h2 h3 i1 i2 => exact ⟨by rw [i2.1, i1.1]; simp only [Lm.nb]; omega, (List.getElem?_eq_some_iff.1 h3).1, gd_jn.2 ⟨i1.2.2, i2.2.2⟩⟩

theorem SG.root {l : List Bg} {f e : Nat} {t : Lm} (h : SG l f e t) : ∃ b, l[e - 1]? = some b ∧ b.size = (t.sz : Int) ∧ b.deep = (t.dp : Int) := by
  cases h with
  | pc h1 h2 => exact ⟨_, h1, rfl, rfl⟩
  | jn h1 h2 h3 => exact ⟨_, h3, rfl, rfl⟩

theorem SG.uniq {l : List Bg} : ∀ {e f f' : Nat} {t t' : Lm}, SG l f e t → SG l f' e t' → f = f' ∧ t = t' := by
  intro e
  induction e using Nat.strongRecOn with
  | ind e ih =>
    intro f f' t t' h h'
    cases h with
    | @pc _ s h1 h2 =>
      cases h' with
      | @pc _ s2 k1 k2 => rw [h1] at k1; cases k1; exact ⟨rfl, rfl⟩
      | @jn _ m2 e2 a2 b2 k1 k2 k3 =>
        rw [h1] at k3
        have q1 := k1.lt.1
        have q2 := Lm.nb_pos a2
        simp only [Option.some.injEq, Bg.mk.injEq] at k3
        have q3 := k3.1
        omega
    | @jn _ m e1 a b h1 h2 h3 =>
      cases h' with
      | @pc _ s2 k1 k2 =>
        rw [h3] at k1
        have q1 := h1.lt.1
        have q2 := Lm.nb_pos a
        simp only [Option.some.injEq, Bg.mk.injEq] at k1
        have q3 := k1.1
        omega
      | @jn _ m2 e2 a2 b2 k1 k2 k3 =>
        rw [h3] at k3
        simp only [Option.some.injEq, Bg.mk.injEq] at k3
        have q3 := k3.1
        have em : m = m2 := by omega
        subst em
        have q1 := h2.lt.1
        have q2 := Lm.nb_pos b
        obtain ⟨-, rfl⟩ := ih e1 (by omega) h2 k2
        obtain ⟨rfl, rfl⟩ := ih m (by omega) h1 k1
        exact ⟨rfl, rfl⟩

/-- The boughs of a tree, laid among others. -/
theorem SG.of_pd (t : Lm) : ∀ (pre suf : List Bg), t.gd → SG (pre ++ t.pd pre.length ++ suf) pre.length (pre.length + t.nb) t := by
  induction t with
  | pc s =>
    intro pre suf h
    refine .pc ?_ (gd_pc.1 h)
    rw [List.append_assoc, List.getElem?_append_right (Nat.le_refl _), Nat.sub_self]
    rfl
  | jn a b iha ihb =>
    intro pre suf h
    obtain ⟨ga, gb⟩ := gd_jn.1 h
    simp only [Lm.pd, Lm.nb]
    obtain ⟨r, hr⟩ : ∃ r : Bg, r = ⟨((pre.length + a.nb : Nat) : Int) - 1, ((pre.length + a.nb + b.nb : Nat) : Int) - 1, eT, ((a.sz + b.sz : Nat) : Int), ((max a.dp b.dp + 1 : Nat) : Int)⟩ := ⟨_, rfl⟩
    rw [← hr]
    have h1 := iha pre (b.pd (pre.length + a.nb) ++ [r] ++ suf) ga
    have h2 := ihb (pre ++ a.pd pre.length) ([r] ++ suf) gb
    have e1 : (pre ++ a.pd pre.length).length = pre.length + a.nb := by rw [List.length_append, Lm.pd_len]
    rw [e1] at h2
    have x1 : pre ++ a.pd pre.length ++ (b.pd (pre.length + a.nb) ++ [r] ++ suf) = pre ++ (a.pd pre.length ++ (b.pd (pre.length + a.nb) ++ [r])) ++ suf := by simp
    have x2 : pre ++ a.pd pre.length ++ b.pd (pre.length + a.nb) ++ ([r] ++ suf) = pre ++ (a.pd pre.length ++ (b.pd (pre.length + a.nb) ++ [r])) ++ suf := by simp
    rw [x1] at h1
    rw [x2] at h2
    rw [show pre.length + (a.nb + b.nb + 1) = pre.length + a.nb + b.nb + 1 by omega]
    refine .jn h1 h2 ?_
    rw [← x2, List.getElem?_append_right (by rw [List.length_append, e1, Lm.pd_len]; omega), List.length_append, e1, Lm.pd_len, Nat.sub_self, hr]
    rfl

theorem SG.seg {l : List Bg} {f e : Nat} {t : Lm} (h : SG l f e t) : (l.take e).drop f = t.pd f := by
  induction h with
  | @pc f s h1 h2 =>
    have hl := (List.getElem?_eq_some_iff.1 h1)
    rw [List.take_succ_eq_append_getElem hl.1, List.drop_left' (by rw [List.length_take]; have := hl.1; omega), hl.2]
    rfl
  | @jn f m e a b h1 h2 h3 i1 i2 =>
    have hl := (List.getElem?_eq_some_iff.1 h3)
    have q1 := h1.lt
    have q2 := h2.lt
    have hle : (l.take e).length = e := by rw [List.length_take]; have := hl.1; omega
    rw [List.take_succ_eq_append_getElem hl.1, List.drop_append_of_le_length (by omega), hl.2]
    have hm : l.take m = (l.take e).take m := by rw [List.take_take, Nat.min_eq_left (by omega)]
    have hsp : (l.take e).drop f = (l.take m).drop f ++ (l.take e).drop m := by
      rw [hm]
      have h5 : l.take e = (l.take e).take m ++ (l.take e).drop m := (List.take_append_drop _ _).symm
      have h6 : ((l.take e).take m).length = m := by rw [List.length_take, hle]; omega
      conv => lhs; rw [h5]
      rw [List.drop_append_of_le_length (by omega)]
    rw [hsp, i1, i2]
    simp only [Lm.pd]
    rw [← q1.1, ← q2.1, List.append_assoc]

/-- A good rope is a tree that stands in all of it. -/
theorem SG.rp {l : List Bg} {t : Lm} : SG l 0 l.length t ↔ l = t.pd 0 ∧ t.gd := by
  constructor
  · intro h
    have := h.seg
    rw [List.take_length, List.drop_zero] at this
    exact ⟨this, h.lt.2.2⟩
  · rintro ⟨h, hg⟩
    have := SG.of_pd t [] [] hg
    simp only [List.nil_append, List.append_nil, List.length_nil, Nat.zero_add] at this
    rw [h, Lm.pd_len]
    exact this

open Classical in
/-- Where a bough's own boughs begin. -/
noncomputable def frs (l : List Bg) (k : Nat) : Int := if h : ∃ f : Nat, ∃ t, SG l f (k + 1) t then (h.choose : Int) else -1

theorem frs_some {l : List Bg} {k f : Nat} {t : Lm} (h : SG l f (k + 1) t) : frs l k = f := by
  unfold frs
  have hx : ∃ f : Nat, ∃ t, SG l f (k + 1) t := ⟨f, t, h⟩
  rw [dif_pos hx]
  obtain ⟨t', h'⟩ := hx.choose_spec
  rw [(SG.uniq h' h).1]

theorem frs_none {l : List Bg} {k : Nat} (h : ∀ f t, ¬ SG l f (k + 1) t) : frs l k = -1 := by
  unfold frs
  rw [dif_neg (fun ⟨f, t, ht⟩ => h f t ht)]

theorem frs_or (l : List Bg) (k : Nat) : (∃ f t, SG l f (k + 1) t ∧ frs l k = (f : Int)) ∨ ((∀ f t, ¬ SG l f (k + 1) t) ∧ frs l k = -1) := by
  by_cases h : ∃ f : Nat, ∃ t, SG l f (k + 1) t
  · obtain ⟨f, t, ht⟩ := h
    exact .inl ⟨f, t, ht, frs_some ht⟩
  · have h2 : ∀ f t, ¬ SG l f (k + 1) t := fun f t ht => h ⟨f, t, ht⟩
    exact .inr ⟨h2, frs_none h2⟩

/-- What stands at a bough that ends a tree. -/
theorem SG.shape {l : List Bg} {k f : Nat} {t : Lm} {b : Bg} (h : SG l f (k + 1) t) (hb : l[k]? = some b) :
    (b.left = -1 ∧ b.right = -1 ∧ t = .pc b.text ∧ f = k ∧ gpc b.text = true ∧ b.size = (b.text.size : Int) ∧ b.deep = 0) ∨
    (0 ≤ b.left ∧ b.text = eT ∧ b.right = (k : Int) - 1 ∧ 2 ≤ k ∧ ∃ m x y, t = .jn x y ∧ SG l f m x ∧ SG l m k y ∧ b.left = (m : Int) - 1 ∧ 1 ≤ m ∧ m < k ∧ b.size = (x.sz : Int) + (y.sz : Int) ∧ b.deep = (max (x.dp : Int) (y.dp : Int)) + 1) := by
  cases h with
  | @pc _ s h1 h2 =>
    rw [hb] at h1
    simp only [Option.some.injEq] at h1
    subst h1
    exact .inl ⟨rfl, rfl, rfl, rfl, h2, rfl, rfl⟩
  | @jn _ m e x y h1 h2 h3 =>
    rw [hb] at h3
    simp only [Option.some.injEq] at h3
    subst h3
    have q1 := h1.lt.1
    have q2 := h2.lt.1
    have p1 := Lm.nb_pos x
    have p2 := Lm.nb_pos y
    exact .inr ⟨by show (0 : Int) ≤ (m : Int) - 1; omega, rfl, rfl, by omega, m, x, y, rfl, h1, h2, rfl, by omega, by omega, by show ((x.sz + y.sz : Nat) : Int) = _; omega, by show ((max x.dp y.dp + 1 : Nat) : Int) = _; omega⟩
end Go.Proofs.YtkjioadmebkaoaaDoor

set_option linter.unusedVariables false
namespace Go.Proofs.YtkjioadmebkaoaaDoor
open Go.RowKit
open Doc1

theorem gpc_eq (s : ByteArray) : gpc s = (decide ((1 : Int) ≤ (s.size : Int) ∧ (s.size : Int) ≤ 8) && allOk s.data.toList) := by
  unfold gpc good
  by_cases h : (1 : Int) ≤ (s.size : Int) ∧ (s.size : Int) ≤ 8
  · rw [decide_eq_true h, decide_eq_true (show 0 < s.size by omega), decide_eq_true (show s.size ≤ 8 by omega), decide_eq_true (show s.data.toList.length ≤ 300 by rw [← szB]; omega)]
    simp
  · rw [decide_eq_false h]
    by_cases h0 : 0 < s.size
    · rw [decide_eq_false (show ¬ s.size ≤ 8 by omega)]; simp
    · rw [decide_eq_false h0]; simp

def FsPost (l : List Bg) (k : Nat) (w : World) (e : Ending) (w' : World) : Prop := e = .returned (.int .i64 (frs l k)) ∧ Below w.heap.size w w'

set_option maxRecDepth 100000 in
set_option maxHeartbeats 8000000 in
theorem l12First_any (l : List Bg) (g cap : Nat) (hl : l.length ≤ 200) (hcl : l.length ≤ cap) (hcm : cap ≤ 9223372036854775807) (hx : ∀ i (hi : i < l.length), l[i].text.size ≤ 1048576) :
    ∀ (k : Nat) (w : World), k < l.length → CLs w g (encBo l) → g < w.heap.size → Calls Tryd.prog 66 #[.slice (some ⟨g, 0, none⟩) l.length cap, .int .i64 (k : Int)] w (FsPost l k w) := by
  intro k
  induction k using Nat.strongRecOn with
  | ind k ih =>
    intro w hk hc hg
    obtain ⟨b0, b1, b2, b3, b4⟩ := hc.bgat k hk
    have HB : Hid (l[k]? = some l[k]) := hide (List.getElem?_eq_getElem hk)
    have htx := hx k hk
    have HC := hide hc
    have HX := hide hx
    obtain ⟨b, hb⟩ : ∃ b, l[k] = b := ⟨_, rfl⟩
    rw [hb] at b0 b1 b2 b3 b4 HB htx
    have HIH := hide ih
    unfold FsPost
    obtain ⟨R, hR⟩ : ∃ R, frs l k = R := ⟨_, rfl⟩
    have HRN : Hid ((∀ f t, ¬ SG l f (k + 1) t) → R = -1) := hide (fun c => by rw [← hR]; exact frs_none c)
    have HRS : Hid (∀ f t, SG l f (k + 1) t → R = (f : Int)) := hide (fun f t c => by rw [← hR]; exact frs_some c)
    rw [hR]
    have hbb : ∀ o : Obj, Below w.heap.size w (w.alloc o) := fun o => (Below.refl _ _).alloc (Nat.le_refl _) o
    have HBB := hide hbb
    clear hc hx hb ih hR hbb
    by_cases hA : b.left = -1 ∧ b.right = -1
    · have e1 : (b.left == -1) = true := by rw [hA.1]; rfl
      have e2 : (b.right == -1) = true := by rw [hA.2]; rfl
      have LI := hide (fun w => l1In_any (b.text.size : Int) 1 8 w)
      have LT := hide (fun w => l1Text_any b.text w (by omega))
      have hgp := gpc_eq b.text
      have HSH : Hid (∀ f t, SG l f (k + 1) t → gpc b.text = true ∧ b.size = (b.text.size : Int) ∧ b.deep = 0) := hide (fun f t c => by
        rcases c.shape HB.out with ⟨-, -, -, -, h1, h2, h3⟩ | ⟨h1, -⟩
        · exact ⟨h1, h2, h3⟩
        · rw [hA.1] at h1; omega)
      obtain ⟨q1, hq1⟩ : ∃ q, decide ((1 : Int) ≤ (b.text.size : Int) ∧ (b.text.size : Int) ≤ 8) = q := ⟨_, rfl⟩
      obtain ⟨q2, hq2⟩ : ∃ q, allOk b.text.data.toList = q := ⟨_, rfl⟩
      rw [hq1, hq2] at hgp
      rw [hq1] at LI
      rw [hq2] at LT
      have HG := hide hgp
      have HAA := hide hA
      clear hq1 hq2 hgp hA
      by_cases hok : (q1 = true ∧ q2 = true) ∧ b.size = (b.text.size : Int) ∧ b.deep = 0
      · obtain ⟨⟨rfl, rfl⟩, hz, hd⟩ := hok
        have e3 : (b.size != (b.text.size : Int)) = false := by rw [hz]; simp
        have e4 : (b.deep != 0) = false := by rw [hd]; rfl
        have hRk : R = (k : Int) := HRS.out k (.pc b.text) (.pc (by rw [HB.out, Option.some.injEq]; obtain ⟨q, q'⟩ := HAA.out; cases b; simp_all) HG.out)
        clear hz hd
        go_enter Tryd.func66, Tryd.ntmps66
        go_wp2_with fail
        refine (LI.out _).mono ?_
        rintro e w1 ⟨rfl, hw⟩
        replace hw := hw.symm
        subst hw
        go_wp2_with fail
        refine (LT.out _).mono ?_
        rintro e w1 ⟨rfl, hw⟩
        replace hw := hw.symm
        subst hw
        go_wp2
        go_ret
        exact ⟨by rw [hRk] <;> rfl, HBB.out _⟩
      · have hRk : R = -1 := HRN.out (fun f t c => hok (by
          obtain ⟨h1, h2, h3⟩ := HSH.out f t c
          rw [HG.out, Bool.and_eq_true] at h1
          exact ⟨h1, h2, h3⟩))
        have HRk := hide hRk
        clear hRk
        cases q1 with
        | false =>
          clear hok
          go_enter Tryd.func66, Tryd.ntmps66
          go_wp2_with fail
          refine (LI.out _).mono ?_
          rintro e w1 ⟨rfl, hw⟩
          replace hw := hw.symm
          subst hw
          go_wp2
          go_ret
          exact ⟨by rw [HRk.out] <;> rfl, HBB.out _⟩
        | true =>
          cases q2 with
          | false =>
            clear hok
            go_enter Tryd.func66, Tryd.ntmps66
            go_wp2_with fail
            refine (LI.out _).mono ?_
            rintro e w1 ⟨rfl, hw⟩
            replace hw := hw.symm
            subst hw
            go_wp2_with fail
            refine (LT.out _).mono ?_
            rintro e w1 ⟨rfl, hw⟩
            replace hw := hw.symm
            subst hw
            go_wp2
            go_ret
            exact ⟨by rw [HRk.out] <;> rfl, HBB.out _⟩
          | true =>
            have hor : ((b.size != (b.text.size : Int)) = true) ∨ ((b.size != (b.text.size : Int)) = false ∧ (b.deep != 0) = true) := by
              by_cases c : b.size = (b.text.size : Int)
              · right
                refine ⟨by rw [c]; simp, ?_⟩
                rw [bne_iff_ne]
                exact fun d => hok ⟨⟨rfl, rfl⟩, c, d⟩
              · left; rw [bne_iff_ne]; exact c
            clear hok
            rcases hor with e3 | ⟨e3, e4⟩
            all_goals
              go_enter Tryd.func66, Tryd.ntmps66
              go_wp2_with fail
              refine (LI.out _).mono ?_
              rintro e w1 ⟨rfl, hw⟩
              replace hw := hw.symm
              subst hw
              go_wp2_with fail
              refine (LT.out _).mono ?_
              rintro e w1 ⟨rfl, hw⟩
              replace hw := hw.symm
              subst hw
              go_wp2
              go_ret
              exact ⟨by rw [HRk.out] <;> rfl, HBB.out _⟩
    · have hgd : ((b.left == -1) = false) ∨ ((b.left == -1) = true ∧ (b.right == -1) = false) := by
        by_cases c : b.left = -1
        · right
          refine ⟨by rw [c]; rfl, ?_⟩
          rw [beq_eq_false_iff_ne]
          exact fun d => hA ⟨c, d⟩
        · left; rw [beq_eq_false_iff_ne]; exact c
      have HSH : Hid (∀ f t, SG l f (k + 1) t → b.text = eT ∧ b.right = (k : Int) - 1 ∧ 2 ≤ k ∧ ∃ m x y, t = .jn x y ∧ SG l f m x ∧ SG l m k y ∧ b.left = (m : Int) - 1 ∧ 1 ≤ m ∧ m < k ∧ b.size = (x.sz : Int) + (y.sz : Int) ∧ b.deep = (max (x.dp : Int) (y.dp : Int)) + 1) := hide (fun f t c => by
        rcases c.shape HB.out with ⟨h1, h2, -⟩ | ⟨-, h⟩
        · exact absurd ⟨h1, h2⟩ hA
        · exact h)
      have ewk : IntKind.i64.wrap ((k : Int) - 1) = (k : Int) - 1 := by rw [IntKind.wrap_i64]; omega
      clear hA
      by_cases hok : b.text.size = 0 ∧ b.right = (k : Int) - 1 ∧ 2 ≤ k
      · obtain ⟨h0, hr, hk2⟩ := hok
        have he : b.text.toList.isEmpty = true := by rw [Lib.toList_data, List.isEmpty_iff_length_eq_zero, ← szB]; exact h0
        have e1 : (b.right != (k : Int) - 1) = false := by rw [hr]; simp
        have e2 : decide ((k : Int) < 2) = false := by rw [decide_eq_false_iff_not]; omega
        obtain ⟨j, hj⟩ : ∃ j, k = j + 1 := ⟨k - 1, by omega⟩
        obtain ⟨wx, hwx⟩ : ∃ wx, wx = w.alloc (.cells #[.int .i64 b.left, .int .i64 b.right, .string b.text, .int .i64 b.size, .int .i64 b.deep] 36) := ⟨_, rfl⟩
        have hbx : Below w.heap.size w wx := by rw [hwx]; exact HBB.out _
        have hsx : wx.heap.size = w.heap.size + 1 := by rw [hwx]; simp
        have hgx : wx.heap[w.heap.size]? = some (.cells #[.int .i64 b.left, .int .i64 b.right, .string b.text, .int .i64 b.size, .int .i64 b.deep] 36) := by rw [hwx]; exact heap_alloc_new w _
        have C1 := hide (HIH.out j (by omega) wx (by omega) (HC.out.later hbx hg) (by omega))
        have hj1 : (k : Int) - 1 = (j : Int) := by omega
        rw [hj1] at e1
        replace ewk : IntKind.i64.wrap ((k : Int) - 1) = (j : Int) := by rw [IntKind.wrap_i64]; omega
        have hrj : b.right = (j : Int) := by omega
        have HR0 := hide hrj
        have HKJ := hide hj
        have HBX := hide hbx
        have HGX := hide hgx
        have HSX := hide hsx
        have HTX : Hid (b.text = eT) := hide (Doc1.ba_eq (by
          have : b.text.data.toList = [] := List.eq_nil_of_length_eq_zero (by rw [← szB]; exact h0)
          rw [this]; rfl))
        unfold FsPost at C1
        rw [hrj] at e1 b1 hgd hwx HGX
        have e1' : ((j : Int) != (j : Int)) = false := by simp
        clear h0 hr hj hj1 hbx hsx hgx hrj e1
        have hjl : j < l.length := by have := HKJ.out; omega
        rcases frs_or l j with ⟨mid, y, hy, hmid⟩ | ⟨hno, hmid⟩
        · rw [hmid] at C1
          have HY := hide hy
          have hyl := hy.lt
          have hsz := gd_sz hyl.2.2
          by_cases hm : 1 ≤ mid ∧ b.left = (mid : Int) - 1
          · obtain ⟨i, hi⟩ : ∃ i, mid = i + 1 := ⟨mid - 1, by omega⟩
            subst hi
            have hbl : b.left = (i : Int) := by omega
            have hil : i < l.length := by omega
            have e3 : decide (((i + 1 : Nat) : Int) < 1) = false := by rw [decide_eq_false_iff_not]; omega
            have ewm : IntKind.i64.wrap (((i + 1 : Nat) : Int) - 1) = (i : Int) := by rw [IntKind.wrap_i64]; omega
            have e4 : ((i : Int) != (i : Int)) = false := by simp
            obtain ⟨ry, hry, s2e, d2e⟩ := hy.root
            rw [Nat.add_sub_cancel, List.getElem?_eq_getElem hjl] at hry
            have hry2 : l[j] = ry := Option.some.inj hry
            obtain ⟨rx, hrx⟩ : ∃ rx, l[i] = rx := ⟨_, rfl⟩
            have HRX : Hid (∀ f x, SG l f (i + 1) x → rx.size = (x.sz : Int) ∧ rx.deep = (x.dp : Int) ∧ x.sz ≤ 1600 ∧ x.dp ≤ 200) := hide (fun f x c => by
              obtain ⟨r, hr, h1, h2⟩ := c.root
              rw [Nat.add_sub_cancel, List.getElem?_eq_getElem hil] at hr
              have : rx = r := by rw [← hrx]; exact Option.some.inj hr
              rw [this]
              have q := c.lt
              have q2 := gd_sz q.2.2
              have q3 := Lm.dp_lt x
              exact ⟨h1, h2, by omega, by omega⟩)
            have ydp := Lm.dp_lt y
            have C2 := hide (fun w' (hb : Below w.heap.size w w') => HIH.out i (by have := HKJ.out; omega) w' hil (HC.out.later hb hg) (Nat.lt_of_lt_of_le hg hb.size))
            have HKC := hide (fun w' (hb : Below w.heap.size w w') => (And.intro ((HC.out.later hb hg).bgat i hil) ((HC.out.later hb hg).bgat j hjl)))
            rw [hrx, hry2, s2e, d2e] at HKC
            obtain ⟨M, hM⟩ : ∃ M : Int, M = max rx.deep (y.dp : Int) := ⟨_, rfl⟩
            have HRE : Hid (b.size = IntKind.i64.wrap (rx.size + (y.sz : Int)) ∧ b.deep = IntKind.i64.wrap (M + 1) → R = frs l i) := hide (fun ⟨c1, c2⟩ => by
              rcases frs_or l i with ⟨f, x, hx, hfx⟩ | ⟨hnx, hfx⟩
              · rw [hfx]
                obtain ⟨r1, r2, r3, r4⟩ := HRX.out f x hx
                refine HRS.out f (.jn x y) ?_
                rw [HKJ.out]
                refine .jn hx (by rw [← HKJ.out]; exact HKJ.out ▸ HY.out) ?_
                rw [← HKJ.out, HB.out, Option.some.injEq]
                have w1 : IntKind.i64.wrap (rx.size + (y.sz : Int)) = (x.sz : Int) + (y.sz : Int) := by rw [r1, IntKind.wrap_i64]; omega
                have w2 : IntKind.i64.wrap (M + 1) = max (x.dp : Int) (y.dp : Int) + 1 := by rw [hM, r2, IntKind.wrap_i64]; omega
                have b1 := HR0.out
                have b2 := HTX.out
                rw [w1] at c1
                rw [w2] at c2
                cases b
                simp only at *
                subst c1 c2 b1 b2 hbl
                congr 1
                · omega
                · have := HKJ.out; omega
                · omega
              · rw [hfx]
                refine HRN.out (fun f t c => ?_)
                obtain ⟨-, -, -, m, x, y', -, h1, h2, h3, -⟩ := HSH.out f t c
                have : m = i + 1 := by omega
                exact hnx f x (this ▸ h1))
            have HRF : Hid (¬ (b.size = IntKind.i64.wrap (rx.size + (y.sz : Int)) ∧ b.deep = IntKind.i64.wrap (M + 1)) → R = -1) := hide (fun hc => HRN.out (fun f t c => hc (by
              obtain ⟨-, -, -, m, x, y', -, h1, h2, h3, -, -, h4, h5⟩ := HSH.out f t c
              have hmi : m = i + 1 := by omega
              subst hmi
              rw [HKJ.out] at h2
              obtain ⟨-, rfl⟩ := SG.uniq h2 HY.out
              obtain ⟨r1, r2, r3, r4⟩ := HRX.out f x h1
              have w1 : IntKind.i64.wrap (rx.size + (y'.sz : Int)) = (x.sz : Int) + (y'.sz : Int) := by rw [r1, IntKind.wrap_i64]; omega
              have w2 : IntKind.i64.wrap (M + 1) = max (x.dp : Int) (y'.dp : Int) + 1 := by rw [hM, r2, IntKind.wrap_i64]; omega
              rw [w1, w2]
              exact ⟨h4, h5⟩)))
            have hbl2 := hbl
            rw [hbl] at b0 hgd hwx HGX
            have hdd : (decide (rx.deep < (y.dp : Int)) = true ∧ M = (y.dp : Int)) ∨ (decide (rx.deep < (y.dp : Int)) = false ∧ M = rx.deep) := by
              by_cases c : rx.deep < (y.dp : Int)
              · exact .inl ⟨decide_eq_true c, by omega⟩
              · exact .inr ⟨decide_eq_false c, by omega⟩
            obtain ⟨W1, hW1⟩ : ∃ W, IntKind.i64.wrap (rx.size + (y.sz : Int)) = W := ⟨_, rfl⟩
            obtain ⟨W2, hW2⟩ : ∃ W, IntKind.i64.wrap (M + 1) = W := ⟨_, rfl⟩
            have hww : ((b.size != W1) = true ∧ R = -1) ∨ ((b.size != W1) = false ∧ (b.deep != W2) = true ∧ R = -1) ∨ ((b.size != W1) = false ∧ (b.deep != W2) = false ∧ R = frs l i) := by
              by_cases c1 : b.size = W1
              · by_cases c2 : b.deep = W2
                · exact .inr (.inr ⟨by rw [c1]; simp, by rw [c2]; simp, HRE.out ⟨by rw [hW1]; exact c1, by rw [hW2]; exact c2⟩⟩)
                · exact .inr (.inl ⟨by rw [c1]; simp, by rw [bne_iff_ne]; exact c2, HRF.out (fun c => c2 (by rw [← hW2]; exact c.2))⟩)
              · exact .inl ⟨by rw [bne_iff_ne]; exact c1, HRF.out (fun c => c1 (by rw [← hW1]; exact c.1))⟩
            unfold FsPost at C2
            have hW1' := hW1
            have hMw : (decide (rx.deep < (y.dp : Int)) = true ∧ IntKind.i64.wrap ((y.dp : Int) + 1) = W2) ∨ (decide (rx.deep < (y.dp : Int)) = false ∧ IntKind.i64.wrap (rx.deep + 1) = W2) := by
              rcases hdd with ⟨d1, d2⟩ | ⟨d1, d2⟩
              · exact .inl ⟨d1, by rw [← hW2, d2]⟩
              · exact .inr ⟨d1, by rw [← hW2, d2]⟩
            have HBZ := hide (And.intro hil hjl)
            clear hry hry2 s2e d2e hrx HRX HRE HRF hM hbl hbl2 hm HSH HRN HRS HY hmid hy hyl hsz ydp HC HIH hW1' hW2 hdd
            have g1 : ((i : Int) == -1) = false := by rw [beq_eq_false_iff_ne]; omega
            clear hgd
            rcases hMw with ⟨d1, d2⟩ | ⟨d1, d2⟩
            all_goals
              rcases hww with ⟨h1, h2⟩ | ⟨h1, h3, h2⟩ | ⟨h1, h3, h2⟩
              · have HRk := hide h2
                clear h2
                go_enter Tryd.func66, Tryd.ntmps66
                go_wp2_with fail
                rw [← hwx]
                clear hwx
                refine C1.out.mono ?_
                rintro e w2 ⟨rfl, hb2⟩
                have HB2 : Hid (Below w.heap.size w w2) := hide (HBX.out.trans (hb2.mono HBX.out.size))
                have hgx2 : w2.heap[w.heap.size]? = _ := (hb2.block _ (by have := HSX.out; omega)).trans HGX.out
                have x0 : w2.cell? ⟨w.heap.size, 0, none⟩ = some (.int .i64 (i : Int)) := by rw [cell_of_row _ _ 0 _ _ (0, 0) hgx2]; rfl
                have x1 : w2.cell? ⟨w.heap.size, 1, none⟩ = some (.int .i64 (j : Int)) := by rw [cell_of_row _ _ 1 _ _ (0, 0) hgx2]; rfl
                have x3 : w2.cell? ⟨w.heap.size, 3, none⟩ = some (.int .i64 b.size) := by rw [cell_of_row _ _ 3 _ _ (0, 0) hgx2]; rfl
                have x4 : w2.cell? ⟨w.heap.size, 4, none⟩ = some (.int .i64 b.deep) := by rw [cell_of_row _ _ 4 _ _ (0, 0) hgx2]; rfl
                obtain ⟨⟨-, -, -, u3, u4⟩, -, -, -, v3, v4⟩ := HKC.out w2 HB2.out
                clear hb2 hgx2
                go_wp2
                go_quiet (fail)
                go_wp2
                go_ret
                exact ⟨by rw [HRk.out] <;> rfl, HB2.out.trans ⟨rfl, rfl, rfl, Nat.le_refl _, fun _ _ => rfl⟩⟩
              · have HRk := hide h2
                clear h2
                go_enter Tryd.func66, Tryd.ntmps66
                go_wp2_with fail
                rw [← hwx]
                clear hwx
                refine C1.out.mono ?_
                rintro e w2 ⟨rfl, hb2⟩
                have HB2 : Hid (Below w.heap.size w w2) := hide (HBX.out.trans (hb2.mono HBX.out.size))
                have hgx2 : w2.heap[w.heap.size]? = _ := (hb2.block _ (by have := HSX.out; omega)).trans HGX.out
                have x0 : w2.cell? ⟨w.heap.size, 0, none⟩ = some (.int .i64 (i : Int)) := by rw [cell_of_row _ _ 0 _ _ (0, 0) hgx2]; rfl
                have x1 : w2.cell? ⟨w.heap.size, 1, none⟩ = some (.int .i64 (j : Int)) := by rw [cell_of_row _ _ 1 _ _ (0, 0) hgx2]; rfl
                have x3 : w2.cell? ⟨w.heap.size, 3, none⟩ = some (.int .i64 b.size) := by rw [cell_of_row _ _ 3 _ _ (0, 0) hgx2]; rfl
                have x4 : w2.cell? ⟨w.heap.size, 4, none⟩ = some (.int .i64 b.deep) := by rw [cell_of_row _ _ 4 _ _ (0, 0) hgx2]; rfl
                obtain ⟨⟨-, -, -, u3, u4⟩, -, -, -, v3, v4⟩ := HKC.out w2 HB2.out
                clear hb2 hgx2
                go_wp2
                go_quiet (fail)
                go_wp2
                go_ret
                exact ⟨by rw [HRk.out] <;> rfl, HB2.out.trans ⟨rfl, rfl, rfl, Nat.le_refl _, fun _ _ => rfl⟩⟩
              · have HRk := hide h2
                clear h2
                go_enter Tryd.func66, Tryd.ntmps66
                go_wp2_with fail
                rw [← hwx]
                clear hwx
                refine C1.out.mono ?_
                rintro e w2 ⟨rfl, hb2⟩
                have HB2 : Hid (Below w.heap.size w w2) := hide (HBX.out.trans (hb2.mono HBX.out.size))
                have hgx2 : w2.heap[w.heap.size]? = _ := (hb2.block _ (by have := HSX.out; omega)).trans HGX.out
                have x0 : w2.cell? ⟨w.heap.size, 0, none⟩ = some (.int .i64 (i : Int)) := by rw [cell_of_row _ _ 0 _ _ (0, 0) hgx2]; rfl
                have x1 : w2.cell? ⟨w.heap.size, 1, none⟩ = some (.int .i64 (j : Int)) := by rw [cell_of_row _ _ 1 _ _ (0, 0) hgx2]; rfl
                have x3 : w2.cell? ⟨w.heap.size, 3, none⟩ = some (.int .i64 b.size) := by rw [cell_of_row _ _ 3 _ _ (0, 0) hgx2]; rfl
                have x4 : w2.cell? ⟨w.heap.size, 4, none⟩ = some (.int .i64 b.deep) := by rw [cell_of_row _ _ 4 _ _ (0, 0) hgx2]; rfl
                obtain ⟨⟨-, -, -, u3, u4⟩, -, -, -, v3, v4⟩ := HKC.out w2 HB2.out
                clear hb2 hgx2
                go_wp2
                go_quiet (fail)
                have hb5 : Below w.heap.size w (w2.drewN nq) := HB2.out.trans ⟨rfl, rfl, rfl, Nat.le_refl _, fun _ _ => rfl⟩
                have C3 := hide (C2.out _ hb5)
                have HB5 := hide hb5
                clear hb5
                go_wp2_with fail
                refine C3.out.mono ?_
                rintro e w6 ⟨rfl, hb6⟩
                have HB6 := hide (HB5.out.trans (hb6.mono HB5.out.size))
                clear hb6
                go_wp2
                go_ret
                exact ⟨by rw [HRk.out] <;> rfl, HB6.out⟩
          · have hRk : R = -1 := HRN.out (fun f t c => hm (by
              obtain ⟨-, -, -, m, x, y', -, h1, h2, h3, h4, -⟩ := HSH.out f t c
              rw [HKJ.out] at h2
              obtain ⟨rfl, -⟩ := SG.uniq h2 HY.out
              exact ⟨h4, h3⟩))
            have HRk := hide hRk
            have ewm : IntKind.i64.wrap ((mid : Int) - 1) = (mid : Int) - 1 := by rw [IntKind.wrap_i64]; omega
            have hor : decide ((mid : Int) < 1) = true ∨ (decide ((mid : Int) < 1) = false ∧ (b.left != (mid : Int) - 1) = true) := by
              by_cases c : (mid : Int) < 1
              · exact .inl (decide_eq_true c)
              · exact .inr ⟨decide_eq_false c, by rw [bne_iff_ne]; exact fun d => hm ⟨by omega, d⟩⟩
            clear hRk hm HSH hmid hy hyl hsz
            rcases hgd with g1 | ⟨g1, g2⟩
            all_goals
              rcases hor with h1 | ⟨h1, h2⟩
              all_goals
                go_enter Tryd.func66, Tryd.ntmps66
                go_wp2_with fail
                rw [← hwx]
                clear hwx
                refine C1.out.mono ?_
                rintro e w2 ⟨rfl, hb2⟩
                have HB2 : Hid (Below w.heap.size w w2) := hide (HBX.out.trans (hb2.mono HBX.out.size))
                have hgx2 : w2.heap[w.heap.size]? = _ := (hb2.block _ (by have := HSX.out; omega)).trans HGX.out
                have x0 := cell_of_row _ _ 0 _ _ (0, 0) hgx2
                simp only [List.getElem?_toArray, List.getElem?_cons_zero] at x0
                clear hb2 hgx2
                go_wp2
                go_ret
                exact ⟨by rw [HRk.out] <;> rfl, HB2.out⟩
        · rw [hmid] at C1
          have hRk : R = -1 := HRN.out (fun f t c => by
            obtain ⟨-, -, -, m, x, y', -, h1, h2, -⟩ := HSH.out f t c
            rw [HKJ.out] at h2
            exact hno _ _ h2)
          have HRk := hide hRk
          clear hRk HSH hmid hno
          rcases hgd with g1 | ⟨g1, g2⟩
          all_goals
            go_enter Tryd.func66, Tryd.ntmps66
            go_wp2_with fail
            rw [← hwx]
            clear hwx
            refine C1.out.mono ?_
            rintro e w2 ⟨rfl, hb2⟩
            have HB2 : Hid (Below w.heap.size w w2) := hide (HBX.out.trans (hb2.mono HBX.out.size))
            clear hb2
            go_wp2
            go_ret
            exact ⟨by rw [HRk.out] <;> rfl, HB2.out⟩
      · have hRk : R = -1 := HRN.out (fun f t c => hok (by
          obtain ⟨h1, h2, h3, -⟩ := HSH.out f t c
          exact ⟨by rw [h1]; rfl, h2, h3⟩))
        have HRk := hide hRk
        have hor : b.text.toList.isEmpty = false ∨ (b.text.toList.isEmpty = true ∧ (b.right != (k : Int) - 1) = true) ∨ (b.text.toList.isEmpty = true ∧ (b.right != (k : Int) - 1) = false ∧ decide ((k : Int) < 2) = true) := by
          by_cases c0 : b.text.size = 0
          · have he : b.text.toList.isEmpty = true := by rw [Lib.toList_data, List.isEmpty_iff_length_eq_zero, ← szB]; exact c0
            by_cases c1 : b.right = (k : Int) - 1
            · exact .inr (.inr ⟨he, by rw [c1]; simp, by rw [decide_eq_true_iff]; have : ¬ 2 ≤ k := fun d => hok ⟨c0, c1, d⟩; omega⟩)
            · exact .inr (.inl ⟨he, by rw [bne_iff_ne]; exact c1⟩)
          · left; rw [Lib.toList_data, List.isEmpty_eq_false_iff, ← List.length_pos_iff, ← szB]; omega
        clear hRk hok HSH
        rcases hgd with g1 | ⟨g1, g2⟩
        all_goals
          rcases hor with h1 | ⟨h1, h2⟩ | ⟨h1, h2, h3⟩
          all_goals
            go_enter Tryd.func66, Tryd.ntmps66
            go_wp2
            go_ret
            exact ⟨by rw [HRk.out] <;> rfl, HBB.out _⟩
end Go.Proofs.YtkjioadmebkaoaaDoor

set_option linter.unusedVariables false
namespace Go.Proofs.YtkjioadmebkaoaaDoor
open Go.RowKit
open Doc1

theorem rtB_iff {l : List Bg} : rtB l = true ↔ ∃ o, RO l o := by
  unfold rtB
  rw [Option.isSome_iff_exists]
  exact ⟨fun ⟨o, h⟩ => ⟨o, dc_ro h⟩, fun ⟨o, h⟩ => ⟨o, dc_some h⟩⟩

theorem rtB_nil : rtB [] = true := rtB_iff.2 ⟨none, rfl⟩

theorem rtO_of {l : List Bg} {o : Option Lm} (h : RO l o) : rtO l = o := by unfold rtO; rw [dc_some h]; rfl

theorem rtO_ro {l : List Bg} (h : rtB l = true) : RO l (rtO l) := by
  obtain ⟨o, ho⟩ := rtB_iff.1 h
  rw [rtO_of ho]; exact ho

theorem rt_bo {l : List Bg} (h : rtB l = true) : l = bo (rtO l) := (RO_bo (rtO_ro h)).1

theorem rt_no {l : List Bg} (h : rtB l = false) : rtO l = none := by
  unfold rtB at h; unfold rtO
  cases hd : dc l with
  | none => rfl
  | some o => rw [hd] at h; cases h

theorem rtB_some {l : List Bg} {n : Nat} (hn : l.length = n + 1) (h2 : n + 1 ≤ 200) : (frs l n = 0 → rtB l = decide ((l[n]'(by omega)).size ≤ 300)) ∧ (frs l n ≠ 0 → rtB l = false) := by
  have h0 : l ≠ [] := fun c => by rw [c] at hn; simp at hn
  constructor
  · intro hf
    rcases frs_or l n with ⟨f, t, ht, e⟩ | ⟨-, e⟩
    · rw [hf] at e
      have : f = 0 := by omega
      subst this
      have hr := ht.root
      obtain ⟨r, hr, hz, -⟩ := hr
      rw [Nat.add_sub_cancel, List.getElem?_eq_getElem (by omega)] at hr
      have hr2 : l[n] = r := Option.some.inj hr
      rw [hr2, hz]
      rw [← hn] at ht
      obtain ⟨k1, k2⟩ := SG.rp.1 ht
      have hnb : t.nb ≤ 200 := by have := ht.lt.1; omega
      by_cases hs : t.sz ≤ 300
      · rw [decide_eq_true (show (t.sz : Int) ≤ 300 by omega)]
        exact rtB_iff.2 ⟨some t, k1, k2, hnb, hs⟩
      · rw [decide_eq_false (show ¬ (t.sz : Int) ≤ 300 by omega), ← Bool.not_eq_true, rtB_iff]
        rintro ⟨o, ho⟩
        cases o with
        | none => exact h0 ho
        | some u =>
          have hu : RP l u := ho
          have h3 : SG l 0 l.length u := SG.rp.2 ⟨hu.1, hu.2.1⟩
          obtain ⟨-, rfl⟩ := SG.uniq ht h3
          exact hs hu.2.2.2
    · rw [hf] at e; omega
  · intro hf
    rw [← Bool.not_eq_true, rtB_iff]
    rintro ⟨o, ho⟩
    cases o with
    | none => exact h0 ho
    | some u =>
      have hu : RP l u := ho
      have h3 : SG l 0 l.length u := SG.rp.2 ⟨hu.1, hu.2.1⟩
      rw [hn] at h3
      exact hf (frs_some h3)

theorem rtB_long {l : List Bg} (h : 200 < l.length) : rtB l = false := by unfold rtB; rw [dc_long h]; rfl

set_option maxRecDepth 100000 in
set_option maxHeartbeats 4000000 in
theorem goodRopeS {w : World} {a : Option Addr} {cap : Nat} {l : List Bg} (h : RIn w a cap l) :
    Calls Tryd.prog 14 #[.agg #[.slice a l.length cap]] w fun e w' => e = .returned (.bool (rtB l)) ∧ Below w.heap.size w w' := by
  have hll := h.len
  have hcl := h.inn.le
  have hcm := h.inn.mx
  unfold maxLen at hcm
  have hb1 : Below w.heap.size w (w.alloc (.cells #[.slice a l.length cap] 26)) := (Below.refl _ _).alloc (Nat.le_refl _) _
  have HB1 := hide hb1
  by_cases h0 : l = []
  · subst h0
    rw [rtB_nil, show ([] : List Bg).length = 0 from rfl]
    clear h hb1
    go_enter Tryd.func14, Tryd.ntmps14
    go_wp2
    go_ret
    exact ⟨rfl, HB1.out⟩
  · obtain ⟨n, hn⟩ : ∃ n, l.length = n + 1 := ⟨l.length - 1, by have := List.length_pos_iff.2 h0; omega⟩
    have hl0 : ((l.length : Int) == 0) = false := by rw [beq_eq_false_iff_ne]; omega
    obtain ⟨g, rfl, hg, hc⟩ := h.inn.ad h0
    by_cases h2 : l.length ≤ 200
    · have e2 : decide ((l.length : Int) ≤ 200) = true := by rw [decide_eq_true_iff]; omega
      obtain ⟨k1, k2⟩ := rtB_some hn (by omega)
      have F := hide (l12First_any l g cap h2 hcl hcm h.txt n (w.alloc (.cells #[.slice (some ⟨g, 0, none⟩) l.length cap] 26)) (by omega) (hc.later hb1 hg) (by simp; omega))
      unfold FsPost at F
      have ew : IntKind.i64.wrap ((l.length : Int) - 1) = (n : Int) := by rw [IntKind.wrap_i64]; omega
      have HK := hide (fun w' (hb : Below w.heap.size w w') => ((hc.later hb hg).bgat n (by omega)).2.2.2.1)
      have hnl : n < l.length := by omega
      have hcr := CellR.new w (.slice (some ⟨g, 0, none⟩) l.length cap)
      have HCR := hide hcr
      obtain ⟨zz, hzz⟩ : ∃ zz, l[n].size = zz := ⟨_, rfl⟩
      rw [hzz] at k1 HK
      have HNN := hide hn
      have K1 := hide k1
      have K2 := hide k2
      obtain ⟨Rb, hRb⟩ : ∃ Rb, rtB l = Rb := ⟨_, rfl⟩
      rw [hRb] at K1 K2 ⊢
      clear h hb1 hc hzz hn hcr k1 k2 hRb
      by_cases hf : frs l n = 0
      · rw [hf] at F
        obtain rfl := K1.out hf
        clear hf K1 K2
        go_enter Tryd.func14, Tryd.ntmps14
        go_wp2_with fail
        refine F.out.mono ?_
        rintro e w2 ⟨rfl, hb2⟩
        have HB2 : Hid (Below w.heap.size w w2) := hide (HB1.out.trans (hb2.mono (by simp)))
        have c3 := HK.out w2 HB2.out
        have cc := (HCR.out.later hb2).cell
        clear hb2
        go_wp2
        go_ret
        exact ⟨rfl, HB2.out⟩
      · have hf' : (frs l n == 0) = false := by rw [beq_eq_false_iff_ne]; exact hf
        obtain rfl := K2.out hf
        obtain ⟨fv, hfv⟩ : ∃ fv, frs l n = fv := ⟨_, rfl⟩
        rw [hfv] at F hf'
        clear hf hfv K1 K2
        go_enter Tryd.func14, Tryd.ntmps14
        go_wp2_with fail
        refine F.out.mono ?_
        rintro e w2 ⟨rfl, hb2⟩
        have HB2 : Hid (Below w.heap.size w w2) := hide (HB1.out.trans (hb2.mono (by simp)))
        clear hb2
        go_wp2
        go_ret
        exact ⟨rfl, HB2.out⟩
    · have e2 : decide ((l.length : Int) ≤ 200) = false := by rw [decide_eq_false_iff_not]; omega
      rw [rtB_long (by omega)]
      clear h hb1 hc hn h2
      go_enter Tryd.func14, Tryd.ntmps14
      go_wp2
      go_ret
      exact ⟨rfl, HB1.out⟩

/-- The boughs of a good rope. -/
theorem rt_pcs {l : List Bg} (h : rtB l = true) : pcsL l = pcO (rtO l) := by
  have e := rt_bo h
  conv => lhs; rw [e]
  exact pcsL_bo _

theorem rt_len {l : List Bg} (h : rtB l = true) : l.length ≤ 200 := by
  by_cases c : l.length ≤ 200
  · exact c
  · rw [rtB_long (by omega)] at h; cases h

end Go.Proofs.YtkjioadmebkaoaaDoor

set_option linter.unusedVariables false
namespace Go.Proofs.YtkjioadmebkaoaaDoor
open Go.RowKit
open Doc1

set_option maxRecDepth 100000 in
set_option maxHeartbeats 4000000 in
theorem ropeOfS (s : ByteArray) (w : World) (hs : s.size ≤ 1048576) :
    Calls Tryd.prog 11 #[.string s] w (RpPost w (roL s) (roB s)) := by
  have hb1 : Below w.heap.size w (w.alloc (.cells #[.slice none 0 0] 26)) := (Below.refl _ _).alloc (Nat.le_refl _) _
  have G := hide (goodTextS_any s (w.alloc (.cells #[.slice none 0 0] 26)) hs)
  have hcr := CellR.new w (.slice none 0 0)
  have HB1 := hide hb1
  unfold RpPost
  cases hg : good s.data.toList with
  | false =>
    have e1 : roL s = [] := by unfold roL; rw [hg]; rfl
    have e2 : roB s = false := by unfold roB; rw [hg]; rfl
    rw [e1, e2]
    rw [hg] at G
    have hc := hcr.cell
    have hf := hcr.fz
    have HC := hide hcr
    clear hb1 hg hcr
    go_enter Tryd.func11, Tryd.ntmps11
    go_wp2_with fail
    refine G.out.mono ?_
    rintro e w1 ⟨rfl, hw⟩
    replace hw := hw.symm
    subst hw
    go_wp2
    refine bodyPost_ret (results_cell_tmp rfl _ _ w.heap.size 26 #[.slice none 0 0] (0, 0) _ (.bool false) rfl rfl (by first | exact HC.out | exact HC.out.put _) Tryd.underlying26 rfl Tryd.sizeRope) rfl ?_
    exact ⟨_, rfl, World.ownsRow_nil _ _ _ _, by first | exact HB1.out.setCell (Nat.le_refl _) _ | exact HB1.out⟩
  | true =>
    have h3 := good_len hg
    rw [← szB] at h3
    have hfit := fit_cut s h3
    have e1 : roL s = bo (evn (cutL s)) := by unfold roL okB; rw [hg, hfit]; rfl
    have e2 : roB s = true := by unfold roB; rw [hg, hfit]; rfl
    rw [e1, e2]
    rw [hg] at G
    have hll := cutL_le s h3
    have htt := tot_cut s
    have C := hide (fun w => l12Cut_any s w (by omega))
    have J := hide (fun (w : World) (B : Nat) (v : Value) (h : TxOwn w B v (cutL s)) => l12Build_own h (by omega) (by omega))
    unfold OwPost at J
    obtain ⟨L, hL⟩ : ∃ L, bo (evn (cutL s)) = L := ⟨_, rfl⟩
    rw [hL] at J ⊢
    have HC := hide hcr
    clear hb1 hg hcr hL hfit e1 e2 hll htt
    go_enter Tryd.func11, Tryd.ntmps11
    go_wp2_with fail
    refine G.out.mono ?_
    rintro e w1 ⟨rfl, hw⟩
    obtain ⟨w2, hw2⟩ : ∃ w2, w2 = w1 := ⟨_, rfl⟩
    rw [← hw2] at hw ⊢
    rw [← hw] at HC HB1
    clear hw hw2 G
    go_wp2_with fail
    refine (C.out w2).mono ?_
    rintro e w3 ⟨v3, rfl, own3, hb3⟩
    have J2 := hide (J.out w3 _ v3 own3)
    have HC3 := hide (HC.out.later hb3)
    have HB3 : Hid (Below w.heap.size w w3) := hide (HB1.out.trans (hb3.mono HB1.out.size))
    clear own3 hb3 HC HB1 J
    go_wp2_with fail
    refine J2.out.mono ?_
    rintro e w5 ⟨v5, rfl, own5, hb5⟩
    obtain ⟨a5, c5, rfl, -⟩ := own_shp own5
    have HC5 := hide (HC3.out.later hb5)
    have hc := HC5.out.cell
    have hf := HC5.out.fz
    have HB5 : Hid (Below w.heap.size w w5) := hide (HB3.out.trans (hb5.mono HB3.out.size))
    have HO5 := hide (own_aside own5 HC3.out.lt 0 (.slice a5 L.length c5))
    have HS4 := hide HB3.out.size
    clear hb5 own5 HC3 HB3
    go_wp2
    refine bodyPost_ret (results_cell_tmp rfl _ _ w.heap.size 26 _ (0, 0) _ (.bool true) rfl rfl (HC5.out.put _) Tryd.underlying26 rfl Tryd.sizeRope) rfl ?_
    exact ⟨_, rfl, own_mono HO5.out HS4.out, HB5.out.setCell (Nat.le_refl _) _⟩

theorem rb_fit (l : List Bg) : fit (evn (pcO (rtO l))) = true := by
  have ok := rt_ok l
  have h1 := nbO_pc (rtO l)
  unfold fit
  rw [nbO_evn, szO_evn, pcO_tot]
  simp; omega

end Go.Proofs.YtkjioadmebkaoaaDoor
