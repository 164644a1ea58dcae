/- The program's ropes out of limbs. -/
import Derived.Test.YtgacajnljplmiabDoorRop3
import Derived.Test.YtgacajnljplmiabDoorRow1c
set_option linter.unusedVariables false
namespace Go.Proofs.YtgacajnljplmiabDoor
open Go.RowKit
open Doc1

theorem pdC_all (t : Lm) (h : t.sz ≤ 10000) : PdC t := by
  induction t with
  | pc s => exact ⟨_, _, _, rfl, entp_pc, put_pc s, fun B v l w ho hB hl => pieceDown s (by simp only [Lm.sz] at h; omega) B v l w ho hB (by omega)⟩
  | jn a b iha ihb => exact ⟨_, _, _, rfl, entp_jn, put_jn _ _ _, fun B v l w ho hB hl => jointDown a b (iha (by simp only [Lm.sz] at h; omega)) (ihb (by simp only [Lm.sz] at h; omega)) (by simp only [Lm.sz] at h; omega) B v l w ho hB hl⟩

/-- Whether a rope keeps the limits. -/
def fit (o : Option Lm) : Bool := decide (nbO o ≤ 200) && decide (szO o ≤ 300)
/-- What is told of it. -/
def okB (o : Option Lm) : List Bg := if fit o then bo o else []
/-- A rope that a function tells: it owns its boughs. -/
def RpPost (w : World) (l : List Bg) (b : Bool) (e : Ending) (w' : World) : Prop := ∃ v, e = .returned (.tuple #[.agg #[v], .bool b]) ∧ BoOwn w' w.heap.size v l ∧ Below w.heap.size w w'

theorem Tryd.sizeRope : (Tryd.prog.info? 41).map (·.size) = some 1 := by kernel_rfl

set_option maxRecDepth 100000 in
set_option maxHeartbeats 4000000 in
theorem ropeWith_none (w : World) : Calls Tryd.prog 73 #[.nilIface] w (RpPost w [] true) := by
  have hq : ∀ w, (binOp .eql 103 .nilIface .nilIface).run Tryd.prog w = .ok (.bool true) w := fun _ => by rfl
  unfold RpPost
  go_enter Tryd.func73, Tryd.ntmps73
  go_wp2
  refine bodyPost_ret (results_cell_tmp rfl _ _ w.heap.size 41 #[.slice none 0 0] (0, 0) _ (.bool true) rfl rfl (heap_alloc_new w _) Tryd.underlying41 rfl Tryd.sizeRope) rfl ?_
  exact ⟨_, rfl, World.ownsRow_nil _ _ _ _, (Below.refl _ _).alloc (Nat.le_refl _) _⟩

set_option maxRecDepth 100000 in
set_option maxHeartbeats 4000000 in
theorem ropeWith_some (t : Lm) (w : World) (h : t.sz ≤ 10000) (hn : t.nb ≤ 10000) : Calls Tryd.prog 73 #[lv t] w (RpPost w (okB (some t)) (fit (some t))) := by
  obtain ⟨T, x, K, e, ka, ma, ca⟩ := pdC_all t h
  obtain ⟨T', x', K', e', ks, ms, cs⟩ := lv_size t
  rw [e] at e'
  cases e'
  have hq : ∀ w, (binOp .eql 103 (.iface T x) .nilIface).run Tryd.prog w = .ok (.bool false) w := fun _ => by rfl
  obtain ⟨w1, hw1⟩ : ∃ w1, w1 = w.alloc (.cells #[.slice none 0 0] 41) := ⟨_, rfl⟩
  have hg : w1.heap[w.heap.size]? = some (.cells #[.slice none 0 0] 41) := by rw [hw1]; exact heap_alloc_new w _
  have hs1 : w1.heap.size = w.heap.size + 1 := by rw [hw1]; simp
  have HB1 : Hid (Below w.heap.size w w1) := hide (by rw [hw1]; exact (Below.refl _ _).alloc (Nat.le_refl _) _)
  have CA := hide (ca w1.heap.size (.slice none 0 0) [] w1 (World.ownsRow_nil _ _ _ _) (Nat.le_refl _) (by simpa using hn))
  have CS := hide cs
  have HOK1 : Hid (¬ (t.nb ≤ 200 ∧ t.sz ≤ 300) → okB (some t) = [] ∧ fit (some t) = false) := hide (fun c => by
    have hf : fit (some t) = false := by unfold fit nbO szO; simp; omega
    exact ⟨by unfold okB; rw [hf]; rfl, hf⟩)
  have HOK2 : Hid (t.nb ≤ 200 ∧ t.sz ≤ 300 → okB (some t) = t.pd 0 ∧ fit (some t) = true) := hide (fun c => by
    have hf : fit (some t) = true := by unfold fit nbO szO; simp [c]
    exact ⟨by unfold okB; rw [hf]; rfl, hf⟩)
  unfold RpPost
  obtain ⟨Lr, hLr⟩ : ∃ Lr, okB (some t) = Lr := ⟨_, rfl⟩
  obtain ⟨br, hbr⟩ : ∃ br, fit (some t) = br := ⟨_, rfl⟩
  rw [hLr, hbr] at HOK1 HOK2 ⊢
  rw [e]
  clear ca cs e hLr hbr
  go_enter Tryd.func73, Tryd.ntmps73
  go_wp2_with fail
  rw [← hw1]
  refine CA.out.mono ?_
  rintro e w2 ⟨v2, rfl, own2, F2, -⟩
  rw [List.nil_append, List.length_nil] at own2
  have hg2 : w2.heap[w.heap.size]? = some (.cells #[.slice none 0 0] 41) := by rw [F2.kept (by omega) (fun c => by cases c)]; exact hg
  have hb2 := F2.b
  have hs2 := hb2.size
  obtain ⟨g, cap, rfl, z3, z4, z5, z6, z7, -⟩ := BoOwn.shape own2 (Doc1.pd_ne t 0)
  rw [Lm.pd_len] at z3 ⊢
  have OWN2 := hide own2
  have HB2 : Hid (Below w.heap.size w w2) := hide (HB1.out.trans (hb2.mono (by omega)))
  clear own2 F2 hb2 CA hw1 hg z7 ka ma z5 z6
  by_cases c1 : t.nb ≤ 200
  · have c1' : decide ((200 : Int) < (t.nb : Int)) = false := by rw [decide_eq_false_iff_not]; omega
    go_wp2_with fail
    refine (CS.out w2).mono ?_
    rintro e w3 ⟨rfl, hb3⟩
    have hs3 := hb3.size
    have hg3 : w3.heap[w.heap.size]? = some (.cells #[.slice none 0 0] 41) := by rw [hb3.block _ (by omega)]; exact hg2
    have OWN3 := hide (own_below OWN2.out hb3)
    have HB3 : Hid (Below w.heap.size w w3) := hide (HB2.out.trans (hb3.mono (by omega)))
    have hc3 := cell_of_row w3 w.heap.size 0 _ _ (0, 0) hg3
    have hf3 := frozen_of_row hg3 0
    clear hb3 HB2 OWN2 hg2
    by_cases c2 : t.sz ≤ 300
    · have c2' : decide ((300 : Int) < (t.sz : Int)) = false := by rw [decide_eq_false_iff_not]; omega
      obtain ⟨rfl, rfl⟩ := HOK2.out ⟨c1, c2⟩
      go_wp2
      refine bodyPost_ret (results_cell_tmp rfl _ _ w.heap.size 41 _ (0, 0) _ (.bool true) rfl rfl (cell_put hg3 0 _) Tryd.underlying41 rfl Tryd.sizeRope) rfl ?_
      refine ⟨_, rfl, ?_, HB3.out.setCell (Nat.le_refl _) _⟩
      have := own_aside OWN3.out (g := w.heap.size) (by omega) 0 (.slice (some ⟨g, 0, none⟩) t.nb cap)
      rw [Lm.pd_len] at this
      unfold BoOwn
      rw [Lm.pd_len]
      exact own_mono this (by omega)
    · have c2' : decide ((300 : Int) < (t.sz : Int)) = true := by rw [decide_eq_true_iff]; omega
      obtain ⟨rfl, rfl⟩ := HOK1.out (fun c => c2 c.2)
      go_wp2
      refine bodyPost_ret (results_cell_tmp rfl _ _ w.heap.size 41 _ (0, 0) _ (.bool false) rfl rfl (cell_put hg3 0 _) Tryd.underlying41 rfl Tryd.sizeRope) rfl ?_
      exact ⟨_, rfl, World.ownsRow_nil _ _ _ _, HB3.out.setCell (Nat.le_refl _) _⟩
  · have c1' : decide ((200 : Int) < (t.nb : Int)) = true := by rw [decide_eq_true_iff]; omega
    obtain ⟨rfl, rfl⟩ := HOK1.out (fun c => c1 c.1)
    have hc2 := cell_of_row w2 w.heap.size 0 _ _ (0, 0) hg2
    have hf2 := frozen_of_row hg2 0
    go_wp2
    refine bodyPost_ret (results_cell_tmp rfl _ _ w.heap.size 41 _ (0, 0) _ (.bool false) rfl rfl (cell_put hg2 0 _) Tryd.underlying41 rfl Tryd.sizeRope) rfl ?_
    exact ⟨_, rfl, World.ownsRow_nil _ _ _ _, HB2.out.setCell (Nat.le_refl _) _⟩

theorem ropeWith_any (o : Option Lm) (w : World) (h : szO o ≤ 10000) (hn : nbO o ≤ 10000) : Calls Tryd.prog 73 #[lvO o] w (RpPost w (okB o) (fit o)) := by
  cases o with
  | none => exact ropeWith_none w
  | some t => exact ropeWith_some t w h hn

set_option maxRecDepth 100000 in
set_option maxHeartbeats 4000000 in
theorem joinLimbs_any (a b : Option Lm) (w : World) (ha : szO a ≤ 1000000) (hb : szO b ≤ 1000000) :
    Calls Tryd.prog 98 #[lvO a, lvO b] w fun e w' => e = .returned (lvO (jo a b)) ∧ Below w.heap.size w w' := by
  cases a with
  | none =>
    have hq : ∀ w, (binOp .eql 103 .nilIface .nilIface).run Tryd.prog w = .ok (.bool true) w := fun _ => by rfl
    rw [show lvO (jo none b) = lvO b from rfl]
    obtain ⟨vb, hvb⟩ : ∃ vb, lvO b = vb := ⟨_, rfl⟩
    rw [hvb, show lvO none = .nilIface from rfl]
    go_enter Tryd.func98, Tryd.ntmps98
    go_wp2
    go_ret
    exact ⟨rfl, Below.refl _ _⟩
  | some a =>
    obtain ⟨T, x, K, e, ka, ma, ca⟩ := lv_size a
    have hqa : ∀ w, (binOp .eql 103 (.iface T x) .nilIface).run Tryd.prog w = .ok (.bool false) w := fun _ => by rfl
    cases b with
    | none =>
      have hq : ∀ w, (binOp .eql 103 .nilIface .nilIface).run Tryd.prog w = .ok (.bool true) w := fun _ => by rfl
      rw [jo_none, show lvO (some a) = .iface T x from e, show lvO none = .nilIface from rfl]
      go_enter Tryd.func98, Tryd.ntmps98
      go_wp2
      go_ret
      exact ⟨rfl, Below.refl _ _⟩
    | some b =>
      obtain ⟨T2, x2, K2, e2, kb, mb, cb⟩ := lv_size b
      have hqb : ∀ w, (binOp .eql 103 (.iface T2 x2) .nilIface).run Tryd.prog w = .ok (.bool false) w := fun _ => by rfl
      have hr : lvO (jo (some a) (some b)) = .iface 166 (.agg #[.iface T x, .iface T2 x2, .int .i64 ((a.sz : Int) + (b.sz : Int))]) := by
        show Value.iface _ (.agg #[lv a, lv b, _]) = _
        rw [e, e2, Int.natCast_add]
      rw [hr, show lvO (some a) = .iface T x from e, show lvO (some b) = .iface T2 x2 from e2]
      have CA := hide ca
      have CB := hide cb
      have ew : IntKind.i64.wrap ((a.sz : Int) + (b.sz : Int)) = (a.sz : Int) + (b.sz : Int) := by simp only [szO] at ha hb; rw [IntKind.wrap_i64]; omega
      clear ca cb e e2 hr
      go_enter Tryd.func98, Tryd.ntmps98
      go_wp2_with fail
      refine (CA.out w).mono ?_
      rintro e w1 ⟨rfl, hb1⟩
      go_wp2_with fail
      refine (CB.out w1).mono ?_
      rintro e w2 ⟨rfl, hb2⟩
      go_wp2
      go_ret
      exact ⟨rfl, hb1.trans (hb2.mono hb1.size)⟩
end Go.Proofs.YtgacajnljplmiabDoor
