/- The model's own helpers over ropes: a piece, boughs that are joined. -/
import Derived.Test.YtgacajnljplmiabDoorRopg
set_option linter.unusedVariables false
namespace Go.Proofs.YtgacajnljplmiabDoor
open Go.RowKit
open Doc1

/-- A row of boughs is told: it lies somewhere, and nothing that lay has changed. -/
def BiPost (w : World) (l : List Bg) (e : Ending) (w' : World) : Prop := ∃ a cap, e = .returned (.slice a l.length cap) ∧ BoIn w' a cap l ∧ Below w.heap.size w w'

/-- A row of boughs of its own is told. -/
def OwPost (w : World) (l : List Bg) (e : Ending) (w' : World) : Prop := ∃ v, e = .returned v ∧ BoOwn w' w.heap.size v l ∧ Below w.heap.size w w'

theorem OwPost.bi {w : World} {l : List Bg} {e : Ending} {w' : World} (h : OwPost w l e w') : BiPost w l e w' := by
  obtain ⟨v, rfl, ho, hb⟩ := h
  obtain ⟨a, cap, rfl, hi⟩ := ho.inn
  exact ⟨a, cap, rfl, hi, hb⟩

theorem BoIn.nil (w : World) (a : Option Addr) (cap : Nat) (h : cap ≤ maxLen) : BoIn w a cap [] := ⟨Nat.zero_le _, h, fun c => absurd rfl c⟩

set_option maxRecDepth 100000 in
set_option maxHeartbeats 4000000 in
theorem l12Piece_any (s : ByteArray) (w : World) (hs : s.size ≤ 1000000) : Calls Tryd.prog 83 #[.string s] w (OwPost w (bo (some (.pc s)))) := by
  unfold OwPost
  have HO := hide (own_new w 65 #[.int .i64 (-1), .int .i64 (-1), .string s, .int .i64 (s.size : Int), .int .i64 0] 1 5 rfl (by omega))
  have HB : Hid (Below w.heap.size w (w.alloc (.cells #[.int .i64 (-1), .int .i64 (-1), .string s, .int .i64 (s.size : Int), .int .i64 0] 65))) := hide ((Below.refl _ _).alloc (Nat.le_refl _) _)
  go_enter Tryd.func83, Tryd.ntmps83
  go_wp2
  go_ret
  have ho : BoOwn (w.alloc (.cells #[.int .i64 (-1), .int .i64 (-1), .string s, .int .i64 (s.size : Int), .int .i64 0] 65)) w.heap.size (.slice (some ⟨w.heap.size, 0, none⟩) 1 1) (bo (some (.pc s))) := HO.out
  exact ⟨_, rfl, ho, HB.out⟩

/-- Boughs laid further behind. -/
def shf (n : Nat) (b : Bg) : Bg := if 0 ≤ b.left then ⟨b.left + n, b.right + n, b.text, b.size, b.deep⟩ else b

theorem pd_shf (t : Lm) : ∀ (o n : Nat), (t.pd o).map (shf n) = t.pd (o + n) := by
  induction t with
  | pc s => intro o n; rfl
  | jn a b iha ihb =>
    intro o n
    have ha := Lm.nb_pos a
    simp only [Lm.pd, List.map_append, List.map_cons, List.map_nil, iha, ihb]
    rw [show o + a.nb + n = o + n + a.nb by omega]
    congr 3
    unfold shf
    rw [if_pos (by show (0 : Int) ≤ ((o + a.nb : Nat) : Int) - 1; omega)]
    congr 1
    · show ((o + a.nb : Nat) : Int) - 1 + n = _; omega
    · show ((o + a.nb + b.nb : Nat) : Int) - 1 + n = _; omega

theorem pd_bd (t : Lm) : ∀ (o : Nat), ∀ b ∈ t.pd o, -1 ≤ b.left ∧ b.left ≤ o + t.nb ∧ -1 ≤ b.right ∧ b.right ≤ o + t.nb := by
  induction t with
  | pc s => intro o b hb; simp only [Lm.pd, List.mem_singleton] at hb; subst hb; simp only; omega
  | jn a b iha ihb =>
    intro o x hx
    simp only [Lm.pd, List.mem_append, List.mem_singleton] at hx
    simp only [Lm.nb]
    rcases hx with h | h | h
    · have := iha _ _ h; omega
    · have := ihb _ _ h; omega
    · subst h; simp only; omega

set_option maxRecDepth 100000 in
set_option maxHeartbeats 8000000 in
theorem l12Join_some (p q : Lm) (ga gb ca cb : Nat) (w : World) (ha : CLs w ga (encBo (p.pd 0))) (hga : ga < w.heap.size) (hca : p.nb ≤ ca ∧ ca ≤ maxLen) (hb : CLs w gb (encBo (q.pd 0))) (hgb : gb < w.heap.size) (hcb : q.nb ≤ cb ∧ cb ≤ maxLen) (hn : p.nb + q.nb ≤ 10000) (hz : p.sz + q.sz ≤ 1000000) :
    Calls Tryd.prog 82 #[.slice (some ⟨ga, 0, none⟩) p.nb ca, .slice (some ⟨gb, 0, none⟩) q.nb cb] w (OwPost w (bo (some (.jn p q)))) := by
  obtain ⟨i0, hi0, hz0, hz1, hz2⟩ := info_parts Tryd.infoBough
  unfold OwPost
  have pa := Lm.nb_pos p
  have pb := Lm.nb_pos q
  have lp := Lm.pd_len p 0
  have lq := Lm.pd_len q 0
  have HA := hide ha
  have HBq := hide hb
  have hp0 : ((p.nb : Int) == 0) = false := by rw [beq_eq_false_iff_ne]; omega
  have hq0 : ((q.nb : Int) == 0) = false := by rw [beq_eq_false_iff_ne]; omega
  have o0 := own_new w 65 #[] 0 5 rfl (by omega)
  have hnews : ∀ j u, (encBo (p.pd 0))[j]? = some u → (w.alloc (.cells #[] 65)).cell? ((⟨ga, 0, none⟩ : Addr).add j) = some u := fun j u hu => by
    rw [addr0, World.cell?_of_block (heap_alloc_old w _ hga)]
    exact ha j u hu
  have hone : ∀ u ∈ encBo (p.pd 0), u.oneCell' = true := fun u hu => by
    unfold encBo at hu
    obtain ⟨b, -, hb2⟩ := List.mem_flatMap.1 hu
    simp [bgC] at hb2
    rcases hb2 with rfl | rfl | rfl | rfl | rfl <;> rfl
  have hel : (encBo (p.pd 0)).length = p.nb * 5 := by rw [encBo_len, lp]
  go_enter Tryd.func82, Tryd.ntmps82
  go_wp2_with (at_builtin; go_loud (refine wpList_append_loc _ rfl _ _ 39 rfl w.heap.size 65 i0 (.agg #[.int .i64 0, .int .i64 0, .string ⟨#[]⟩, .int .i64 0, .int .i64 0]) 5 48 Tryd.underlying39 hi0 hz0 hz1 hz2 rfl (by decide) _ _ _ rfl o0 ⟨ga, 0, none⟩ p.nb ca (encBo (p.pd 0)) rfl hel hnews hone (by unfold maxLen; omega) (by omega) (by simp) ?_ pa); intro v3 w3 own3 grow3 loc3; have HR3 : Hid (BoOwn w3 w.heap.size v3 (p.pd 0) ∧ Below w.heap.size w w3) := hide ⟨(by unfold BoOwn; rw [lp]; rw [Nat.zero_add, List.nil_append] at own3; exact own3), grown_belowB ((Below.refl _ _).alloc (Nat.le_refl _) _) (by simp) o0 grow3⟩; clear own3 grow3 loc3)
  clear o0 hnews hone hel
  go_loopw [5, 24] (fun v vi wr => ∃ (k : Nat), k ≤ q.nb ∧ vi = .int .i64 (k : Int) ∧ ∃ v0, v0 = v ∧ Hid (BoOwn wr w.heap.size v0 (p.pd 0 ++ ((q.pd 0).take k).map (shf p.nb)) ∧ Below w.heap.size w wr)) (fun _ vi _ => q.nb - (intOf vi).toNat)
  case atStart => exact ⟨0, by omega, rfl, _, rfl, hide ⟨by rw [List.take_zero, List.map_nil, List.append_nil]; exact HR3.out.1, HR3.out.2⟩⟩
  case round =>
    clear HR3
    obtain ⟨k, hk, rfl, v, hv0, HR⟩ := hrel
    subst hv0
    have hB := HR.out.2.size
    by_cases hlt : k < q.nb
    · have hlt2 : k < (q.pd 0).length := by omega
      obtain ⟨b0, b1, b2, b3, b4⟩ := (HBq.out.later HR.out.2 hgb).bgat k hlt2
      have hbd := pd_bd q 0 _ (List.getElem_mem hlt2)
      have hll : (p.pd 0 ++ ((q.pd 0).take k).map (shf p.nb)).length = p.nb + k := by rw [List.length_append, List.length_map, List.length_take, lp]; omega
      have HT : Hid (p.pd 0 ++ ((q.pd 0).take (k + 1)).map (shf p.nb) = p.pd 0 ++ ((q.pd 0).take k).map (shf p.nb) ++ [shf p.nb (q.pd 0)[k]]) := hide (by rw [List.take_succ_eq_append_getElem hlt2, List.map_append, List.map_singleton, List.append_assoc])
      obtain ⟨x, hx⟩ : ∃ x, (q.pd 0)[k] = x := ⟨_, rfl⟩
      rw [hx] at b0 b1 b2 b3 b4 hbd HT
      obtain ⟨L, hL⟩ : ∃ L, p.pd 0 ++ ((q.pd 0).take k).map (shf p.nb) = L := ⟨_, rfl⟩
      rw [hL] at HR hll HT
      clear hx hL
      by_cases h0 : 0 ≤ x.left
      · have e0 : decide ((0 : Int) ≤ x.left) = true := decide_eq_true h0
        have ew1 : IntKind.i64.wrap (x.left + (p.nb : Int)) = x.left + (p.nb : Int) := by rw [IntKind.wrap_i64]; omega
        have ew2 : IntKind.i64.wrap (x.right + (p.nb : Int)) = x.right + (p.nb : Int) := by rw [IntKind.wrap_i64]; omega
        have HS : Hid (shf p.nb x = ⟨x.left + p.nb, x.right + p.nb, x.text, x.size, x.deep⟩) := hide (by unfold shf; rw [if_pos h0])
        have hLl : L.length ≤ 10000 := by omega
        go_wp2_with (at_builtin; go_loud (refine wpList_append_loc _ rfl _ _ 39 rfl w.heap.size 65 i0 (.agg #[.int .i64 0, .int .i64 0, .string ⟨#[]⟩, .int .i64 0, .int .i64 0]) 5 48 Tryd.underlying39 hi0 hz0 hz1 hz2 rfl (by decide) _ _ _ rfl (World.ownsRow.alloc (World.ownsRow.alloc HR.out.1 _) _) ⟨wr.heap.size + 1, 0, none⟩ 1 1 (bgC ⟨x.left + p.nb, x.right + p.nb, x.text, x.size, x.deep⟩) rfl rfl (cell5_at _ _ (by simp) _ _ _ _ _ _) (by intro u hu; simp [bgC] at hu; rcases hu with rfl | rfl | rfl | rfl | rfl <;> rfl) (by unfold maxLen; omega) (by omega) (by simp; omega) ?_); intro v5 w5 own5 grow5 loc5; have HR5 : Hid (BoOwn w5 w.heap.size v5 (p.pd 0 ++ ((q.pd 0).take (k + 1)).map (shf p.nb)) ∧ Below w.heap.size w w5) := hide ⟨(by rw [HT.out, HS.out]; exact BoOwn.app own5), below_append (HR.out.2.alloc hB _) (World.ownsRow.alloc HR.out.1 _) (by simp; omega) grow5⟩; clear own5 grow5 loc5 HR)
        exact ⟨⟨k + 1, by omega, by go_num, v5, rfl, HR5⟩, by simp [intOf]; omega⟩
      · have e0 : decide ((0 : Int) ≤ x.left) = false := decide_eq_false h0
        have HS : Hid (shf p.nb x = x) := hide (by unfold shf; rw [if_neg h0])
        have hLl : L.length ≤ 10000 := by omega
        go_wp2_with (at_builtin; go_loud (refine wpList_append_loc _ rfl _ _ 39 rfl w.heap.size 65 i0 (.agg #[.int .i64 0, .int .i64 0, .string ⟨#[]⟩, .int .i64 0, .int .i64 0]) 5 48 Tryd.underlying39 hi0 hz0 hz1 hz2 rfl (by decide) _ _ _ rfl (World.ownsRow.alloc (World.ownsRow.alloc HR.out.1 _) _) ⟨wr.heap.size + 1, 0, none⟩ 1 1 (bgC x) rfl rfl (cell5_at _ _ (by simp) _ _ _ _ _ _) (by intro u hu; simp [bgC] at hu; rcases hu with rfl | rfl | rfl | rfl | rfl <;> rfl) (by unfold maxLen; omega) (by omega) (by simp; omega) ?_); intro v5 w5 own5 grow5 loc5; have HR5 : Hid (BoOwn w5 w.heap.size v5 (p.pd 0 ++ ((q.pd 0).take (k + 1)).map (shf p.nb)) ∧ Below w.heap.size w w5) := hide ⟨(by rw [HT.out, HS.out]; exact BoOwn.app own5), below_append (HR.out.2.alloc hB _) (World.ownsRow.alloc HR.out.1 _) (by simp; omega) grow5⟩; clear own5 grow5 loc5 HR)
        exact ⟨⟨k + 1, by omega, by go_num, v5, rfl, HR5⟩, by simp [intOf]; omega⟩
    · have HE : Hid (BoOwn wr w.heap.size v (p.pd 0 ++ q.pd p.nb)) := hide (by
        have := HR.out.1
        rw [List.take_of_length_le (by omega), pd_shf, Nat.zero_add] at this
        exact this)
      have HBr := hide HR.out.2
      have hi1 : p.nb - 1 < (p.pd 0).length := by omega
      have hi2 : q.nb - 1 < (q.pd 0).length := by omega
      have r1 := (HA.out.later HR.out.2 hga).bgat (p.nb - 1) hi1
      have r2 := (HBq.out.later HR.out.2 hgb).bgat (q.nb - 1) hi2
      obtain ⟨ip, ep, kp⟩ := Lm.pd_root p 0
      obtain ⟨iq, eq, kq⟩ := Lm.pd_root q 0
      have x1 : (p.pd 0)[p.nb - 1] = p.rb 0 := (List.getElem_eq_iff _).2 (by rw [ep, List.getElem?_append_right (by omega), show p.nb - 1 - ip.length = 0 by omega]; rfl)
      have x2 : (q.pd 0)[q.nb - 1] = q.rb 0 := (List.getElem_eq_iff _).2 (by rw [eq, List.getElem?_append_right (by omega), show q.nb - 1 - iq.length = 0 by omega]; rfl)
      rw [x1] at r1
      rw [x2] at r2
      obtain ⟨a0, a1, a2, a3, a4⟩ := r1
      obtain ⟨c0, c1, c2, c3, c4⟩ := r2
      rw [(Lm.rb_is p 0).1] at a3
      rw [(Lm.rb_is p 0).2] at a4
      rw [(Lm.rb_is q 0).1] at c3
      rw [(Lm.rb_is q 0).2] at c4
      have dp1 := Lm.dp_lt p
      have dp2 := Lm.dp_lt q
      obtain ⟨i, hi⟩ : ∃ i, p.nb - 1 = i := ⟨_, rfl⟩
      obtain ⟨j, hj⟩ : ∃ j, q.nb - 1 = j := ⟨_, rfl⟩
      rw [hi] at a0 a1 a2 a3 a4
      rw [hj] at c0 c1 c2 c3 c4
      have ew1 : IntKind.i64.wrap ((p.nb : Int) - 1) = (i : Int) := by rw [IntKind.wrap_i64]; omega
      have ew2 : IntKind.i64.wrap ((q.nb : Int) - 1) = (j : Int) := by rw [IntKind.wrap_i64]; omega
      obtain ⟨A, hA⟩ : ∃ A, p.pd 0 ++ q.pd p.nb = A := ⟨_, rfl⟩
      have hAl : A.length = p.nb + q.nb := by rw [← hA, List.length_append, Lm.pd_len, Lm.pd_len]
      rw [hA] at HE
      obtain ⟨av, cv, rfl, -⟩ := own_shp HE.out
      have ew3 : IntKind.i64.wrap ((A.length : Int) - 1) = (A.length : Int) - 1 := by rw [IntKind.wrap_i64]; omega
      have ew4 : IntKind.i64.wrap ((p.sz : Int) + (q.sz : Int)) = (p.sz : Int) + (q.sz : Int) := by rw [IntKind.wrap_i64]; omega
      have hij : i < p.nb ∧ j < q.nb := by omega
      obtain ⟨hi5, hj5⟩ := hij
      have HPD : Hid (∀ m : Int, m = ((max p.dp q.dp : Nat) : Int) → bo (some (.jn p q)) = A ++ [⟨(i : Int), (A.length : Int) - 1, ⟨#[]⟩, (p.sz : Int) + (q.sz : Int), m + 1⟩]) := hide (fun m hm => by
        show Lm.pd 0 (.jn p q) = _
        simp only [Lm.pd]
        rw [← hA, hm, Nat.zero_add, List.append_assoc]
        congr 4
        · omega
        · rw [List.length_append, Lm.pd_len, Lm.pd_len])
      have hAl2 : A.length ≤ 10000 := by omega
      clear HR hi hj hA hAl x1 x2 ep eq kp kq hi1 hi2
      have cc : ∀ (o : Obj) (n : Nat), (wr.alloc o).cell? ⟨gb, n, none⟩ = wr.cell? ⟨gb, n, none⟩ := fun o n => World.cell?_of_block (heap_alloc_old wr o (by show gb < _; omega))
      by_cases hd : p.dp < q.dp
      · have ed : decide ((p.dp : Int) < (q.dp : Int)) = true := by rw [decide_eq_true_iff]; omega
        go_wp2_with (at_builtin; go_loud (refine wpList_append_loc _ rfl _ _ 39 rfl w.heap.size 65 i0 (.agg #[.int .i64 0, .int .i64 0, .string ⟨#[]⟩, .int .i64 0, .int .i64 0]) 5 48 Tryd.underlying39 hi0 hz0 hz1 hz2 rfl (by decide) _ _ _ rfl (World.ownsRow.alloc (World.ownsRow.alloc (World.ownsRow.alloc HE.out _) _) _) ⟨wr.heap.size + 1 + 1, 0, none⟩ 1 1 (bgC ⟨(i : Int), (A.length : Int) - 1, ⟨#[]⟩, (p.sz : Int) + (q.sz : Int), (q.dp : Int) + 1⟩) rfl rfl (cell5_at _ _ (by simp) _ _ _ _ _ _) (by intro u hu; simp [bgC] at hu; rcases hu with rfl | rfl | rfl | rfl | rfl <;> rfl) (by unfold maxLen; omega) (by omega) (by simp; omega) ?_); intro v5 w5 own5 grow5 loc5; have HR5 : Hid (BoOwn w5 w.heap.size v5 (bo (some (.jn p q))) ∧ Below w.heap.size w w5) := hide ⟨(by rw [HPD.out (q.dp : Int) (by omega)]; exact BoOwn.app own5), below_append ((HBr.out.alloc hB _).alloc (by simp; omega) _) (World.ownsRow.alloc (World.ownsRow.alloc HE.out _) _) (by simp; omega) grow5⟩; clear own5 grow5 loc5 HE)
        go_ret
        exact ⟨v5, rfl, HR5.out.1, HR5.out.2⟩
      · have ed : decide ((p.dp : Int) < (q.dp : Int)) = false := by rw [decide_eq_false_iff_not]; omega
        go_wp2_with (at_builtin; go_loud (refine wpList_append_loc _ rfl _ _ 39 rfl w.heap.size 65 i0 (.agg #[.int .i64 0, .int .i64 0, .string ⟨#[]⟩, .int .i64 0, .int .i64 0]) 5 48 Tryd.underlying39 hi0 hz0 hz1 hz2 rfl (by decide) _ _ _ rfl (World.ownsRow.alloc (World.ownsRow.alloc (World.ownsRow.alloc HE.out _) _) _) ⟨wr.heap.size + 1 + 1, 0, none⟩ 1 1 (bgC ⟨(i : Int), (A.length : Int) - 1, ⟨#[]⟩, (p.sz : Int) + (q.sz : Int), (p.dp : Int) + 1⟩) rfl rfl (cell5_at _ _ (by simp) _ _ _ _ _ _) (by intro u hu; simp [bgC] at hu; rcases hu with rfl | rfl | rfl | rfl | rfl <;> rfl) (by unfold maxLen; omega) (by omega) (by simp; omega) ?_); intro v5 w5 own5 grow5 loc5; have HR5 : Hid (BoOwn w5 w.heap.size v5 (bo (some (.jn p q))) ∧ Below w.heap.size w w5) := hide ⟨(by rw [HPD.out (p.dp : Int) (by omega)]; exact BoOwn.app own5), below_append ((HBr.out.alloc hB _).alloc (by simp; omega) _) (World.ownsRow.alloc (World.ownsRow.alloc HE.out _) _) (by simp; omega) grow5⟩; clear own5 grow5 loc5 HE)
        go_ret
        exact ⟨v5, rfl, HR5.out.1, HR5.out.2⟩

set_option maxRecDepth 100000 in
set_option maxHeartbeats 4000000 in
theorem l12Join_any (x y : Option Lm) (a b : Option Addr) (ca cb : Nat) (w : World) (ha : BoIn w a ca (bo x)) (hb : BoIn w b cb (bo y)) (hn : nbO x + nbO y ≤ 10000) (hz : szO x + szO y ≤ 1000000) :
    Calls Tryd.prog 82 #[.slice a (bo x).length ca, .slice b (bo y).length cb] w (BiPost w (bo (jo x y))) := by
  cases x with
  | none =>
    rw [show (bo none).length = 0 from rfl]
    rw [show jo none y = y from rfl]
    unfold BiPost
    have hle := hb.le
    have hmx := hb.mx
    unfold maxLen at hmx
    have HB := hide hb
    obtain ⟨L, hL⟩ : ∃ L, bo y = L := ⟨_, rfl⟩
    rw [hL] at HB hle ⊢
    clear ha hb hL
    go_enter Tryd.func82, Tryd.ntmps82
    go_wp2
    go_ret
    exact ⟨b, cb, rfl, HB.out, Below.refl _ _⟩
  | some p =>
    have lp : (bo (some p)).length = p.nb := Lm.pd_len p 0
    have pp := Lm.nb_pos p
    have hp0 : ((p.nb : Int) == 0) = false := by rw [beq_eq_false_iff_ne]; omega
    cases y with
    | none =>
      rw [show (bo none).length = 0 from rfl, jo_none]
      unfold BiPost
      have hle := ha.le
      have hmx := ha.mx
      unfold maxLen at hmx
      have HA := hide ha
      rw [lp]
      rw [lp] at hle
      simp only [nbO] at hn
      clear ha hb
      go_enter Tryd.func82, Tryd.ntmps82
      go_wp2
      go_ret
      exact ⟨a, ca, rfl, HA.out, Below.refl _ _⟩
    | some q =>
      have lq : (bo (some q)).length = q.nb := Lm.pd_len q 0
      obtain ⟨ga, rfl, hga, hca⟩ := ha.ad (pd_ne p 0)
      obtain ⟨gb, rfl, hgb, hcb⟩ := hb.ad (pd_ne q 0)
      rw [lp, lq]
      exact (fun h => h.mono (fun _ _ k => OwPost.bi k)) (l12Join_some p q ga gb ca cb w hca hga ⟨by rw [← lp]; exact ha.le, ha.mx⟩ hcb hgb ⟨by rw [← lq]; exact hb.le, hb.mx⟩ hn hz)
end Go.Proofs.YtgacajnljplmiabDoor
