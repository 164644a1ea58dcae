/- The program's ropes out of limbs. The program's rows of pieces: joined in a row, joined evenly. The program's rows of pieces: added up, cut out of a text, read as a text. The program's pieces cut out of a text, read as a text; limbs that are split. The program's limbs that are split. The program's pieces asked for, and boughs held against one another. -/
import Derived.Test.YtkjioadmebkaoaaDoorRopZ
import Derived.Test.YtkjioadmebkaoaaDoorRow1c
import Derived.Deep.RegionHeld3
import Derived.Test.YtkjioadmebkaoaaDoorAppB
import Derived.Test.YtkjioadmebkaoaaDoorWalks1
set_option linter.unusedVariables false
namespace Go.Proofs.YtkjioadmebkaoaaDoor
open Go.RowKit
open Doc1

theorem pdC_all (t : Lm) (h : t.sz ≤ 10000) : PdC t := by
  induction t with
  | pc s => exact ⟨_, _, _, rfl, entp_pc, put_pc s, fun B v l w ho hB hl => pieceDown s (by simp only [Lm.sz] at h; omega) B v l w ho hB (by omega)⟩
  | jn a b iha ihb => exact ⟨_, _, _, rfl, entp_jn, put_jn _ _ _, fun B v l w ho hB hl => jointDown a b (iha (by simp only [Lm.sz] at h; omega)) (ihb (by simp only [Lm.sz] at h; omega)) (by simp only [Lm.sz] at h; omega) B v l w ho hB hl⟩

/-- Whether a rope keeps the limits. -/
def fit (o : Option Lm) : Bool := decide (nbO o ≤ 200) && decide (szO o ≤ 300)
/-- What is told of it. -/
def okB (o : Option Lm) : List Bg := if fit o then bo o else []
/-- A rope that a function tells: it owns its boughs. -/
def RpPost (w : World) (l : List Bg) (b : Bool) (e : Ending) (w' : World) : Prop := ∃ v, e = .returned (.tuple #[.agg #[v], .bool b]) ∧ BoOwn w' w.heap.size v l ∧ Below w.heap.size w w'

theorem Tryd.sizeRope : (Tryd.prog.info? 26).map (·.size) = some 1 := by kernel_rfl

set_option maxRecDepth 100000 in
set_option maxHeartbeats 4000000 in
theorem ropeWith_none (w : World) : Calls Tryd.prog 57 #[.nilIface] w (RpPost w [] true) := by
  have hq : ∀ w, (binOp .eql 106 .nilIface .nilIface).run Tryd.prog w = .ok (.bool true) w := fun _ => by rfl
  unfold RpPost
  go_enter Tryd.func57, Tryd.ntmps57
  go_wp2
  refine bodyPost_ret (results_cell_tmp rfl _ _ w.heap.size 26 #[.slice none 0 0] (0, 0) _ (.bool true) rfl rfl (heap_alloc_new w _) Tryd.underlying26 rfl Tryd.sizeRope) rfl ?_
  exact ⟨_, rfl, World.ownsRow_nil _ _ _ _, (Below.refl _ _).alloc (Nat.le_refl _) _⟩

set_option maxRecDepth 100000 in
set_option maxHeartbeats 4000000 in
theorem ropeWith_some (t : Lm) (w : World) (h : t.sz ≤ 10000) (hn : t.nb ≤ 10000) : Calls Tryd.prog 57 #[lv t] w (RpPost w (okB (some t)) (fit (some t))) := by
  obtain ⟨T, x, K, e, ka, ma, ca⟩ := pdC_all t h
  obtain ⟨T', x', K', e', ks, ms, cs⟩ := lv_size t
  rw [e] at e'
  cases e'
  have hq : ∀ w, (binOp .eql 106 (.iface T x) .nilIface).run Tryd.prog w = .ok (.bool false) w := fun _ => by rfl
  obtain ⟨w1, hw1⟩ : ∃ w1, w1 = w.alloc (.cells #[.slice none 0 0] 26) := ⟨_, rfl⟩
  have hg : w1.heap[w.heap.size]? = some (.cells #[.slice none 0 0] 26) := by rw [hw1]; exact heap_alloc_new w _
  have hs1 : w1.heap.size = w.heap.size + 1 := by rw [hw1]; simp
  have HB1 : Hid (Below w.heap.size w w1) := hide (by rw [hw1]; exact (Below.refl _ _).alloc (Nat.le_refl _) _)
  have CA := hide (ca w1.heap.size (.slice none 0 0) [] w1 (World.ownsRow_nil _ _ _ _) (Nat.le_refl _) (by simpa using hn))
  have CS := hide cs
  have HOK1 : Hid (¬ (t.nb ≤ 200 ∧ t.sz ≤ 300) → okB (some t) = [] ∧ fit (some t) = false) := hide (fun c => by
    have hf : fit (some t) = false := by unfold fit nbO szO; simp; omega
    exact ⟨by unfold okB; rw [hf]; rfl, hf⟩)
  have HOK2 : Hid (t.nb ≤ 200 ∧ t.sz ≤ 300 → okB (some t) = t.pd 0 ∧ fit (some t) = true) := hide (fun c => by
    have hf : fit (some t) = true := by unfold fit nbO szO; simp [c]
    exact ⟨by unfold okB; rw [hf]; rfl, hf⟩)
  unfold RpPost
  obtain ⟨Lr, hLr⟩ : ∃ Lr, okB (some t) = Lr := ⟨_, rfl⟩
  obtain ⟨br, hbr⟩ : ∃ br, fit (some t) = br := ⟨_, rfl⟩
  rw [hLr, hbr] at HOK1 HOK2 ⊢
  rw [e]
  clear ca cs e hLr hbr
  go_enter Tryd.func57, Tryd.ntmps57
  go_wp2_with fail
  rw [← hw1]
  refine CA.out.mono ?_
  rintro e w2 ⟨v2, rfl, own2, F2, -⟩
  rw [List.nil_append, List.length_nil] at own2
  have hg2 : w2.heap[w.heap.size]? = some (.cells #[.slice none 0 0] 26) := by rw [F2.kept (by omega) (fun c => by cases c)]; exact hg
  have hb2 := F2.b
  have hs2 := hb2.size
  obtain ⟨g, cap, rfl, z3, z4, z5, z6, z7, -⟩ := BoOwn.shape own2 (Doc1.pd_ne t 0)
  rw [Lm.pd_len] at z3 ⊢
  have OWN2 := hide own2
  have HB2 : Hid (Below w.heap.size w w2) := hide (HB1.out.trans (hb2.mono (by omega)))
  clear own2 F2 hb2 CA hw1 hg z7 ka ma z5 z6
  by_cases c1 : t.nb ≤ 200
  · have c1' : decide ((200 : Int) < (t.nb : Int)) = false := by rw [decide_eq_false_iff_not]; omega
    go_wp2_with fail
    refine (CS.out w2).mono ?_
    rintro e w3 ⟨rfl, hb3⟩
    have hs3 := hb3.size
    have hg3 : w3.heap[w.heap.size]? = some (.cells #[.slice none 0 0] 26) := by rw [hb3.block _ (by omega)]; exact hg2
    have OWN3 := hide (own_below OWN2.out hb3)
    have HB3 : Hid (Below w.heap.size w w3) := hide (HB2.out.trans (hb3.mono (by omega)))
    have hc3 := cell_of_row w3 w.heap.size 0 _ _ (0, 0) hg3
    have hf3 := frozen_of_row hg3 0
    clear hb3 HB2 OWN2 hg2
    by_cases c2 : t.sz ≤ 300
    · have c2' : decide ((300 : Int) < (t.sz : Int)) = false := by rw [decide_eq_false_iff_not]; omega
      obtain ⟨rfl, rfl⟩ := HOK2.out ⟨c1, c2⟩
      go_wp2
      refine bodyPost_ret (results_cell_tmp rfl _ _ w.heap.size 26 _ (0, 0) _ (.bool true) rfl rfl (cell_put hg3 0 _) Tryd.underlying26 rfl Tryd.sizeRope) rfl ?_
      refine ⟨_, rfl, ?_, HB3.out.setCell (Nat.le_refl _) _⟩
      have := own_aside OWN3.out (g := w.heap.size) (by omega) 0 (.slice (some ⟨g, 0, none⟩) t.nb cap)
      rw [Lm.pd_len] at this
      unfold BoOwn
      rw [Lm.pd_len]
      exact own_mono this (by omega)
    · have c2' : decide ((300 : Int) < (t.sz : Int)) = true := by rw [decide_eq_true_iff]; omega
      obtain ⟨rfl, rfl⟩ := HOK1.out (fun c => c2 c.2)
      go_wp2
      refine bodyPost_ret (results_cell_tmp rfl _ _ w.heap.size 26 _ (0, 0) _ (.bool false) rfl rfl (cell_put hg3 0 _) Tryd.underlying26 rfl Tryd.sizeRope) rfl ?_
      exact ⟨_, rfl, World.ownsRow_nil _ _ _ _, HB3.out.setCell (Nat.le_refl _) _⟩
  · have c1' : decide ((200 : Int) < (t.nb : Int)) = true := by rw [decide_eq_true_iff]; omega
    obtain ⟨rfl, rfl⟩ := HOK1.out (fun c => c1 c.1)
    have hc2 := cell_of_row w2 w.heap.size 0 _ _ (0, 0) hg2
    have hf2 := frozen_of_row hg2 0
    go_wp2
    refine bodyPost_ret (results_cell_tmp rfl _ _ w.heap.size 26 _ (0, 0) _ (.bool false) rfl rfl (cell_put hg2 0 _) Tryd.underlying26 rfl Tryd.sizeRope) rfl ?_
    exact ⟨_, rfl, World.ownsRow_nil _ _ _ _, HB2.out.setCell (Nat.le_refl _) _⟩

theorem ropeWith_any (o : Option Lm) (w : World) (h : szO o ≤ 10000) (hn : nbO o ≤ 10000) : Calls Tryd.prog 57 #[lvO o] w (RpPost w (okB o) (fit o)) := by
  cases o with
  | none => exact ropeWith_none w
  | some t => exact ropeWith_some t w h hn

set_option maxRecDepth 100000 in
set_option maxHeartbeats 4000000 in
theorem joinLimbs_any (a b : Option Lm) (w : World) (ha : szO a ≤ 1000000) (hb : szO b ≤ 1000000) :
    Calls Tryd.prog 69 #[lvO a, lvO b] w fun e w' => e = .returned (lvO (jo a b)) ∧ Below w.heap.size w w' := by
  cases a with
  | none =>
    have hq : ∀ w, (binOp .eql 106 .nilIface .nilIface).run Tryd.prog w = .ok (.bool true) w := fun _ => by rfl
    rw [show lvO (jo none b) = lvO b from rfl]
    obtain ⟨vb, hvb⟩ : ∃ vb, lvO b = vb := ⟨_, rfl⟩
    rw [hvb, show lvO none = .nilIface from rfl]
    go_enter Tryd.func69, Tryd.ntmps69
    go_wp2
    go_ret
    exact ⟨rfl, Below.refl _ _⟩
  | some a =>
    obtain ⟨T, x, K, e, ka, ma, ca⟩ := lv_size a
    have hqa : ∀ w, (binOp .eql 106 (.iface T x) .nilIface).run Tryd.prog w = .ok (.bool false) w := fun _ => by rfl
    cases b with
    | none =>
      have hq : ∀ w, (binOp .eql 106 .nilIface .nilIface).run Tryd.prog w = .ok (.bool true) w := fun _ => by rfl
      rw [jo_none, show lvO (some a) = .iface T x from e, show lvO none = .nilIface from rfl]
      go_enter Tryd.func69, Tryd.ntmps69
      go_wp2
      go_ret
      exact ⟨rfl, Below.refl _ _⟩
    | some b =>
      obtain ⟨T2, x2, K2, e2, kb, mb, cb⟩ := lv_size b
      have hqb : ∀ w, (binOp .eql 106 (.iface T2 x2) .nilIface).run Tryd.prog w = .ok (.bool false) w := fun _ => by rfl
      have hr : lvO (jo (some a) (some b)) = .iface 205 (.agg #[.iface T x, .iface T2 x2, .int .i64 ((a.sz : Int) + (b.sz : Int))]) := by
        show Value.iface _ (.agg #[lv a, lv b, _]) = _
        rw [e, e2, Int.natCast_add]
      rw [hr, show lvO (some a) = .iface T x from e, show lvO (some b) = .iface T2 x2 from e2]
      have CA := hide ca
      have CB := hide cb
      have ew : IntKind.i64.wrap ((a.sz : Int) + (b.sz : Int)) = (a.sz : Int) + (b.sz : Int) := by simp only [szO] at ha hb; rw [IntKind.wrap_i64]; omega
      clear ca cb e e2 hr
      go_enter Tryd.func69, Tryd.ntmps69
      go_wp2_with fail
      refine (CA.out w).mono ?_
      rintro e w1 ⟨rfl, hb1⟩
      go_wp2_with fail
      refine (CB.out w1).mono ?_
      rintro e w2 ⟨rfl, hb2⟩
      go_wp2
      go_ret
      exact ⟨rfl, hb1.trans (hb2.mono hb1.size)⟩
end Go.Proofs.YtkjioadmebkaoaaDoor

set_option linter.unusedVariables false
namespace Go.Proofs.YtkjioadmebkaoaaDoor
open Go.RowKit
open Doc1

/-- Texts in a row of cells, from a place on. -/
def StAt (w : World) (g off : Nat) (l : List ByteArray) : Prop := ∀ i (h : i < l.length), w.cell? ⟨g, off + i, none⟩ = some (.string l[i])
theorem StAt.later {w w1 : World} {B g off : Nat} {l : List ByteArray} (h : StAt w g off l) (hb : Below B w w1) (hg : g < B) : StAt w1 g off l := fun i hi => (World.cell?_of_block (hb.block g hg)).trans (h i hi)
theorem StAt.take {w : World} {g off : Nat} {l : List ByteArray} (h : StAt w g off l) (n : Nat) : StAt w g off (l.take n) := fun i hi => by
  rw [List.length_take] at hi
  rw [h i (by omega), List.getElem_take]
theorem StAt.drop {w : World} {g off : Nat} {l : List ByteArray} (h : StAt w g off l) (n : Nat) : StAt w g (off + n) (l.drop n) := fun i hi => by
  rw [List.length_drop] at hi
  rw [Nat.add_assoc, h (n + i) (by omega), List.getElem_drop]
def tot (l : List ByteArray) : Nat := (l.map ByteArray.size).sum
theorem tot_app (a b : List ByteArray) : tot (a ++ b) = tot a + tot b := by simp [tot]
theorem tot_take_drop (l : List ByteArray) (n : Nat) : tot (l.take n) + tot (l.drop n) = tot l := by rw [← tot_app, List.take_append_drop]
theorem tot_at {l : List ByteArray} {k : Nat} (h : k < l.length) : l[k].size ≤ tot l := by
  have := tot_take_drop l k
  rw [List.drop_eq_getElem_cons h] at this
  have e : tot (l[k] :: l.drop (k + 1)) = l[k].size + tot (l.drop (k + 1)) := by unfold tot; rw [List.map_cons, List.sum_cons]
  omega
theorem szO_evn (l : List ByteArray) : szO (evn l) = tot l := by rw [szO_pc, evn_pc _ l rfl]; rfl
theorem szO_row (l : List ByteArray) : szO (inRow l) = tot l := by rw [szO_pc, inRow_pc]; rfl
theorem nbO_evn (l : List ByteArray) : nbO (evn l) = 2 * l.length - 1 := by rw [nbO_pc, evn_pc _ l rfl]
theorem nbO_row (l : List ByteArray) : nbO (inRow l) = 2 * l.length - 1 := by rw [nbO_pc, inRow_pc]

theorem cut_low (g off n cap k : Nat) (h : k ≤ cap) (w : World) : (Instr.slice 108 (.slice (some ⟨g, off, none⟩) n cap) none (some (.int .i64 (k : Int))) none).run Tryd.prog w = .ok (.slice (some ⟨g, off, none⟩) k cap) w := by
  simp [go_sem, Tryd.underlying108, h]
theorem cut_high (g off n cap k : Nat) (h : k ≤ n) (h2 : k < cap) (w : World) : (Instr.slice 108 (.slice (some ⟨g, off, none⟩) n cap) (some (.int .i64 (k : Int))) none none).run Tryd.prog w = .ok (.slice (some ⟨g, off + k, none⟩) (n - k) (cap - k)) w := by
  have : ¬ cap = k := by omega
  simp [go_sem, Tryd.underlying108, h, this]

set_option maxRecDepth 100000 in
set_option maxHeartbeats 4000000 in
theorem joinEvenly_none (a : Option Addr) (cap : Nat) (w : World) :
    Calls Tryd.prog 58 #[.slice a 0 cap] w fun e w' => e = .returned .nilIface ∧ Below w.heap.size w w' := by
  go_enter Tryd.func58, Tryd.ntmps58
  go_wp2
  go_ret
  exact ⟨rfl, Below.refl _ _⟩

set_option maxRecDepth 100000 in
set_option maxHeartbeats 4000000 in
theorem joinEvenly_some (n : Nat) : ∀ (l : List ByteArray) (g off cap : Nat) (w : World), l.length = n → 0 < n → StAt w g off l → g < w.heap.size → l.length ≤ cap → cap ≤ maxLen → l.length ≤ 100000 → tot l ≤ 1000000 →
    Calls Tryd.prog 58 #[.slice (some ⟨g, off, none⟩) l.length cap] w fun e w' => e = .returned (lvO (evn l)) ∧ Below w.heap.size w w' := by
  induction n using Nat.strongRecOn with
  | ind n ih =>
    intro l g off cap w hn h0 hs hg hc hm hl ht
    by_cases h1 : l.length = 1
    · have c0 := hs 0 (by omega)
      rw [Nat.add_zero] at c0
      have e : evn l = some (.pc l[0]) := by
        rw [evn, dif_neg (by omega), dif_pos h1, List.getD_eq_getElem?_getD, List.getElem?_eq_getElem (by omega)]
        rfl
      rw [e, show lvO (some (.pc l[0])) = .iface 200 (.string l[0]) from rfl]
      obtain ⟨s0, hs0⟩ : ∃ s0, l[0] = s0 := ⟨_, rfl⟩
      rw [hs0] at c0 ⊢
      rw [h1]
      clear ih e hs0
      go_enter Tryd.func58, Tryd.ntmps58
      go_wp2
      go_ret
      exact ⟨rfl, Below.refl _ _⟩
    · obtain ⟨k, hk⟩ : ∃ k, k = (l.length + 1) / 2 := ⟨_, rfl⟩
      have e : evn l = jo (evn (l.take k)) (evn (l.drop k)) := by
        rw [evn, dif_neg (by omega), dif_neg h1, ← hk]
      rw [e]
      have hk1 : 0 < k := by omega
      have hk2 : k < l.length := by omega
      have l1 : (l.take k).length = k := by rw [List.length_take]; omega
      have l2 : (l.drop k).length = l.length - k := List.length_drop
      have ht2 := tot_take_drop l k
      have A1 := hide (fun w' (hb : Below w.heap.size w w') => ih k (by omega) (l.take k) g off cap w' l1 (by omega) ((hs.take k).later hb hg) (Nat.lt_of_lt_of_le hg hb.size) (by omega) hm (by omega) (by omega))
      have A2 := hide (fun w' (hb : Below w.heap.size w w') => ih (l.length - k) (by omega) (l.drop k) g (off + k) (cap - k) w' l2 (by omega) ((hs.drop k).later hb hg) (Nat.lt_of_lt_of_le hg hb.size) (by omega) (by omega) (by omega) (by omega))
      rw [l1] at A1
      rw [l2] at A2
      have z1 := szO_evn (l.take k)
      have z2 := szO_evn (l.drop k)
      obtain ⟨oa, hoa⟩ : ∃ oa, evn (l.take k) = oa := ⟨_, rfl⟩
      obtain ⟨ob, hob⟩ : ∃ ob, evn (l.drop k) = ob := ⟨_, rfl⟩
      rw [hoa] at A1 z1 ⊢
      rw [hob] at A2 z2 ⊢
      have JL := hide (fun w' => joinLimbs_any oa ob w' (by omega) (by omega))
      obtain ⟨va, hva⟩ : ∃ va, lvO oa = va := ⟨_, rfl⟩
      obtain ⟨vb, hvb⟩ : ∃ vb, lvO ob = vb := ⟨_, rfl⟩
      obtain ⟨vr, hvr⟩ : ∃ vr, lvO (jo oa ob) = vr := ⟨_, rfl⟩
      rw [hva] at A1 JL
      rw [hvb] at A2 JL
      rw [hvr] at JL ⊢
      have hq1 : IntKind.i64.wrap ((l.length : Int) + 1) = (l.length : Int) + 1 := by rw [IntKind.wrap_i64]; omega
      have hq2 : IntKind.i64.wrap (((l.length : Int) + 1) / 2) = (k : Int) := by rw [IntKind.wrap_i64]; omega
      have hq3 : Int.tdiv ((l.length : Int) + 1) 2 = (k : Int) := by rw [Int.tdiv_eq_ediv_of_nonneg (by omega)]; omega
      have hcap : ¬ cap = k := by omega
      have hb0 : (0 : Int) ≤ (k : Int) := by omega
      have hb1 : (k : Int) ≤ (cap : Int) := by omega
      have hb2 : (k : Int) ≤ (l.length : Int) := by omega
      have hb3 : (l.length : Int) ≤ (cap : Int) := by omega
      clear ih e hs hoa hob hva hvb hvr l1 l2 z1 z2 ht2 hn h0 ht
      have hcl := cut_low g off l.length cap k (by omega)
      have hch := cut_high g off l.length cap k (by omega) (by omega)
      go_enter Tryd.func58, Tryd.ntmps58
      go_wp2
      rw [show ((l.length : Int) + 1) / 2 = (k : Int) by omega]
      have hbz : (0 : Int) ≤ (k : Int) ∧ (k : Int) ≤ (cap : Int) ∧ k < cap ∧ k ≤ l.length := by omega
      clear hq1 hq2 hq3 hb0 hb1 hb2 hb3 hcap hk hk1 hk2 h1 hc hm hl
      obtain ⟨hb0, hb1, hb2, hb3⟩ := hbz
      go_region_held3 (fun w' => True) (trivial)
        (first
          | (go_at_call 69; refine (JL.out _).mono ?_; rintro e wc ⟨rfl, hbc⟩; have hbx3 : Below w.heap.size w wc := hbx2.trans (hbc.mono hbx2.size))
          | (go_at_call 58; refine (A2.out _ hbx1).mono ?_; rintro e wb ⟨rfl, hbb⟩; have hbx2 : Below w.heap.size w wb := hbx1.trans (hbb.mono hbx1.size))
          | (go_at_call 58; refine (A1.out _ (Below.refl _ _).drew).mono ?_; rintro e wa ⟨rfl, hba⟩; have hbx1 : Below w.heap.size w wa := (Below.refl _ _).drew.trans hba))
      go_wp2
      go_ret
      exact ⟨rfl, hbx3⟩
set_option maxRecDepth 100000 in
set_option maxHeartbeats 4000000 in
theorem joinInRow_any (l : List ByteArray) (a : Option Addr) (cap : Nat) (w : World) (hs : ∀ i (h : i < l.length), ∃ g, a = some ⟨g, 0, none⟩ ∧ g < w.heap.size ∧ w.cell? ⟨g, i, none⟩ = some (.string l[i])) (hl : l.length ≤ 100000) (hc : l.length ≤ cap ∧ cap ≤ maxLen) (ht : tot l ≤ 100000) :
    Calls Tryd.prog 80 #[.slice a l.length cap] w fun e w' => e = .returned (lvO (inRow l)) ∧ Below w.heap.size w w' := by
  have JL := hide joinLimbs_any
  have HS := hide hs
  have HT := hide ht
  clear hs ht
  go_enter Tryd.func80, Tryd.ntmps80
  go_wp2
  go_loopw [3, 8] (fun v vi wr => ∃ (k : Nat), k ≤ l.length ∧ vi = .int .i64 (k : Int) ∧ ∃ o, v = lvO o ∧ Hid (o = inRow (l.take k)) ∧ Hid (Below w.heap.size w wr)) (fun _ vi _ => l.length - (intOf vi).toNat)
  case atStart => exact ⟨0, by omega, rfl, none, rfl, hide rfl, hide (Below.refl _ _)⟩
  case round =>
    obtain ⟨k, hk, rfl, o, rfl, HO, HB⟩ := hrel
    by_cases hlt : k < l.length
    · obtain ⟨g, rfl, hg, c⟩ := HS.out k hlt
      have c1 : wr.cell? ⟨g, k, none⟩ = some (.string l[k]) := (World.cell?_of_block (HB.out.block g hg)).trans c
      have h1 : szO o ≤ 1000000 := by
        have := HT.out; have := tot_take_drop l k
        rw [HO.out, szO_row]; omega
      have h2 : szO (some (.pc l[k])) ≤ 1000000 := by
        have := HT.out; have := tot_at hlt
        show l[k].size ≤ _
        omega
      have J := hide (JL.out o (some (.pc l[k])) wr h1 h2)
      rw [show lvO (some (.pc l[k])) = .iface 200 (.string l[k]) from rfl] at J
      have HN : Hid (jo o (some (.pc l[k])) = inRow (l.take (k + 1))) := hide (by rw [List.take_succ_eq_append_getElem hlt, inRow_snoc, HO.out])
      obtain ⟨va, hva⟩ : ∃ va, lvO o = va := ⟨_, rfl⟩
      rw [hva] at J ⊢
      clear c h1 h2 hva
      go_wp2_with fail
      refine J.out.mono ?_
      rintro e w2 ⟨rfl, hb2⟩
      have HB2 := hide (HB.out.trans (hb2.mono HB.out.size))
      clear hb2 J
      go_wp2
      exact ⟨⟨k + 1, by omega, by go_num, _, rfl, HN, HB2⟩, by simp [intOf]; omega⟩
    · have HE : Hid (inRow l = o) := hide (by rw [HO.out, List.take_of_length_le (by omega)])
      go_wp2
      go_ret
      exact ⟨by rw [HE.out] <;> rfl, HB.out⟩
end Go.Proofs.YtkjioadmebkaoaaDoor

set_option linter.unusedVariables false
namespace Go.Proofs.YtkjioadmebkaoaaDoor
open Go.RowKit
open Doc1

theorem Tryd.infoPiece : (Tryd.prog.info? 200).map (fun i => (i.zero, i.size, i.bytes)) = some (some (.string ⟨#[]⟩), 1, 16) := by kernel_rfl
def stC (l : List ByteArray) : List Value := l.map Value.string
/-- A row of pieces of one's own. -/
def PcOwn (w : World) (B : Nat) (v : Value) (l : List ByteArray) : Prop := w.ownsRow B 200 1 v l.length (stC l)
theorem PcOwn.app {w : World} {B : Nat} {v : Value} {l m : List ByteArray} (h : w.ownsRow B 200 1 v (l.length + m.length) (stC l ++ stC m)) : PcOwn w B v (l ++ m) := by
  unfold PcOwn
  rw [List.length_append]
  unfold stC at h ⊢
  rw [List.map_append]
  exact h
theorem PcOwn.nil (w : World) (B : Nat) : PcOwn w B (.slice none 0 0) [] := World.ownsRow_nil _ _ _ _
/-- A row of pieces that is read. -/
theorem PcOwn.at' {w : World} {B : Nat} {v : Value} {l : List ByteArray} (h : PcOwn w B v l) : ∃ a cap, v = .slice a l.length cap ∧ l.length ≤ cap ∧ cap ≤ maxLen ∧ ∀ i (hi : i < l.length), ∃ g, a = some ⟨g, 0, none⟩ ∧ g < w.heap.size ∧ w.cell? ⟨g, i, none⟩ = some (.string l[i]) := by
  unfold PcOwn at h
  obtain ⟨a, cap, rfl, k1, k2⟩ := own_shp h
  refine ⟨a, cap, rfl, k1, k2, fun i hi => ?_⟩
  obtain ⟨g, cc, e, -, -, -, z, -⟩ := own_open h (by omega)
  simp only [Value.slice.injEq] at e
  obtain ⟨e1, -, -⟩ := e
  subst e1
  refine ⟨g, rfl, z, ?_⟩
  rw [World.ownsRow.cellAt h i (by omega)]
  simp [stC, hi]

set_option maxRecDepth 100000 in
set_option maxHeartbeats 4000000 in
theorem joinInRow_own {w : World} {B : Nat} {v : Value} {l : List ByteArray} (h : PcOwn w B v l) (hl : l.length ≤ 100000) (ht : tot l ≤ 100000) :
    Calls Tryd.prog 80 #[v] w fun e w' => e = .returned (lvO (inRow l)) ∧ Below w.heap.size w w' := by
  obtain ⟨a, cap, rfl, k1, k2, hc⟩ := h.at'
  exact joinInRow_any l a cap w hc hl ⟨k1, k2⟩ ht
theorem joinEvenly_own {w : World} {B : Nat} {v : Value} {l : List ByteArray} (h : PcOwn w B v l) (hl : l.length ≤ 100000) (ht : tot l ≤ 100000) :
    Calls Tryd.prog 58 #[v] w fun e w' => e = .returned (lvO (evn l)) ∧ Below w.heap.size w w' := by
  obtain ⟨a, cap, rfl, k1, k2, hc⟩ := h.at'
  by_cases h0 : l.length = 0
  · have e : evn l = none := by rw [evn, dif_pos h0]
    rw [h0, e]
    exact joinEvenly_none a cap w
  · obtain ⟨g, rfl, hg, -⟩ := hc 0 (by omega)
    exact joinEvenly_some l.length l g 0 cap w rfl (by omega) (fun i hi => by
      obtain ⟨g', e, -, c⟩ := hc i hi
      cases e
      rw [Nat.zero_add]
      exact c) hg k1 k2 (by omega) (by omega)

theorem taP_nil (w : World) : (Instr.typeAssert .nilIface 106 200 true).run Tryd.prog w = .ok (.tuple #[.string ⟨#[]⟩, .bool false]) w := by kernel_rfl
theorem taP_pc (s : ByteArray) (w : World) : (Instr.typeAssert (.iface 200 (.string s)) 106 200 true).run Tryd.prog w = .ok (.tuple #[.string s, .bool true]) w := by kernel_rfl
theorem taP_jn (x : Value) (w : World) : (Instr.typeAssert (.iface 205 x) 106 200 true).run Tryd.prog w = .ok (.tuple #[.string ⟨#[]⟩, .bool false]) w := by kernel_rfl
theorem taJ_nil (w : World) : (Instr.typeAssert .nilIface 106 205 true).run Tryd.prog w = .ok (.tuple #[.agg #[.nilIface, .nilIface, .int .i64 0], .bool false]) w := by kernel_rfl
theorem taJ_jn (x : Value) (w : World) : (Instr.typeAssert (.iface 205 x) 106 205 true).run Tryd.prog w = .ok (.tuple #[x, .bool true]) w := by kernel_rfl
theorem taJ_sure (x : Value) (w : World) : (Instr.typeAssert (.iface 205 x) 106 205 false).run Tryd.prog w = .ok x w := by kernel_rfl
theorem own_off {v v2 : Value} {k n : Nat} (h : v.ownBlock ≠ some k) (hl : v2.ownBlock = v.ownBlock ∨ ∀ y, v2.ownBlock = some y → n ≤ y) (hk : k < n) : v2.ownBlock ≠ some k := fun e => by
  rcases hl with c | c
  · rw [c] at e; exact h e
  · have := c _ e; omega
/-- What is left by adding pieces. -/
def PcPost (m : List ByteArray) (B : Nat) (v : Value) (l : List ByteArray) (w : World) (e : Ending) (w' : World) : Prop := ∃ v', e = .returned v' ∧ PcOwn w' B v' (l ++ m) ∧ Fr B v.ownBlock w w' ∧ (v'.ownBlock = v.ownBlock ∨ ∀ y, v'.ownBlock = some y → w.heap.size ≤ y)

set_option maxRecDepth 100000 in
set_option maxHeartbeats 4000000 in
theorem addPieces_none (B : Nat) (v : Value) (l : List ByteArray) (w : World) (h : PcOwn w B v l) (hB : B ≤ w.heap.size) :
    Calls Tryd.prog 65 #[v, .nilIface] w (PcPost [] B v l w) := by
  unfold PcPost
  have h1 := taP_nil
  have h2 := taJ_nil
  go_enter Tryd.func65, Tryd.ntmps65
  go_wp2
  go_ret
  exact ⟨v, rfl, by rw [List.append_nil]; exact h.alloc _, (Fr.refl _ _ _).alloc hB _, .inl rfl⟩

set_option maxRecDepth 100000 in
set_option maxHeartbeats 4000000 in
theorem addPieces_pc (s : ByteArray) (B : Nat) (v : Value) (l : List ByteArray) (w : World) (h : PcOwn w B v l) (hB : B ≤ w.heap.size) (hl : l.length ≤ 100000) :
    Calls Tryd.prog 65 #[v, .iface 200 (.string s)] w (PcPost [s] B v l w) := by
  obtain ⟨i0, hi0, hz0, hz1, hz2⟩ := info_parts Tryd.infoPiece
  unfold PcPost
  have own2 : w.ownsRow B 200 1 v l.length (stC l) := h
  have ht := taP_pc s
  go_enter Tryd.func65, Tryd.ntmps65
  go_wp2_with (at_builtin; go_loud (refine wpList_append_loc _ rfl _ _ 108 rfl B 200 i0 (.string ⟨#[]⟩) 1 16 Tryd.underlying108 hi0 hz0 hz1 hz2 rfl (by decide) _ _ _ rfl (own2.alloc _) ⟨w.heap.size, 0, none⟩ 1 1 [.string s] rfl rfl (World.news_of_block (cs := #[.string s]) (t := 200) (fr := (0, 0)) (heap_alloc_new w _)) (by simp [Value.oneCell']) (by unfold maxLen; omega) (by omega) (by simp; omega) ?_); intro v3 w3 own3 grow3 loc3; have HO : Hid (PcOwn w3 B v3 (l ++ [s])) := hide (PcOwn.app own3); have HF : Hid (Fr B v.ownBlock w w3) := hide (fr_append (Fr.refl _ _ _) own2 hB grow3); clear own3 grow3)
  go_ret
  refine ⟨v3, rfl, HO.out, HF.out, loc3.imp id (fun k y hy => ?_)⟩
  have := k y hy
  simp at this
  omega

set_option maxRecDepth 100000 in
set_option maxHeartbeats 4000000 in
theorem addPieces_any (t : Lm) : ∀ (B : Nat) (v : Value) (l : List ByteArray) (w : World), PcOwn w B v l → B ≤ w.heap.size → l.length + t.nb ≤ 100000 → t.sz ≤ 1000000 → Calls Tryd.prog 65 #[v, lv t] w (PcPost t.pcs B v l w) := by
  induction t with
  | pc s => intro B v l w h hB hl hz; exact addPieces_pc s B v l w h hB (by omega)
  | jn a b iha ihb =>
    intro B v l w h hB hl hz
    have h1 := taP_jn (.agg #[lv a, lv b, .int .i64 ((a.sz + b.sz : Nat) : Int)])
    have h2 := taJ_jn (.agg #[lv a, lv b, .int .i64 ((a.sz + b.sz : Nat) : Int)])
    simp only [Lm.nb, Lm.sz] at hl hz
    rw [show lv (.jn a b) = .iface 205 (.agg #[lv a, lv b, .int .i64 ((a.sz + b.sz : Nat) : Int)]) from rfl]
    have HV : Hid (∀ y, v.ownBlock = some y → y < w.heap.size) := hide (fun y hy => (World.ownsRow.lt h y hy).2)
    obtain ⟨Ta, xa, -, hva, -⟩ := lv_size a
    obtain ⟨Tb, xb, -, hvb, -⟩ := lv_size b
    obtain ⟨n, hn⟩ : ∃ n : Int, ((a.sz + b.sz : Nat) : Int) = n := ⟨_, rfl⟩
    rw [hva] at h1 h2 iha ⊢
    rw [hvb] at h1 h2 ihb ⊢
    rw [hn] at h1 h2 ⊢
    obtain ⟨w1, hw1⟩ : ∃ w1, w1 = w.alloc (.cells #[.iface Ta xa, .iface Tb xb, .int .i64 n] 205) := ⟨_, rfl⟩
    have own1 : PcOwn w1 B v l := by rw [hw1]; exact World.ownsRow.alloc h _
    have F1 : Fr B v.ownBlock w w1 := by rw [hw1]; exact (Fr.refl _ _ _).alloc hB _
    have hs1 : w1.heap.size = w.heap.size + 1 := by rw [hw1]; simp
    have c0 : w1.cell? ⟨w.heap.size, 0, none⟩ = some (.iface Ta xa) := by rw [hw1, cell_of_row _ _ 0 _ _ (0, 0) (heap_alloc_new w _)]; rfl
    have c1 : w1.cell? ⟨w.heap.size, 1, none⟩ = some (.iface Tb xb) := by rw [hw1, cell_of_row _ _ 1 _ _ (0, 0) (heap_alloc_new w _)]; rfl
    have A1 : Hid (∀ w', w' = w1 ∨ w' = w1.drew → Calls Tryd.prog 65 #[v, .iface Ta xa] w' (PcPost a.pcs B v l w')) := hide (fun w' hw' => by
      rcases hw' with rfl | rfl
      · exact iha B v l _ own1 (by omega) (by omega) (by omega)
      · exact iha B v l _ (own_below own1 (Below.refl _ _).drew) (by show B ≤ w1.heap.size; omega) (by omega) (by omega))
    have hpl : a.pcs.length ≤ a.nb := by have := Lm.nb_pcs a; omega
    have A2 : Hid (∀ w' v', PcOwn w' B v' (l ++ a.pcs) → B ≤ w'.heap.size → Calls Tryd.prog 65 #[v', .iface Tb xb] w' (PcPost b.pcs B v' (l ++ a.pcs) w')) := hide (fun w' v' ho hB' => ihb B v' _ w' ho hB' (by rw [List.length_append]; omega) (by omega))
    unfold PcPost
    clear iha ihb hva hvb hn
    go_enter Tryd.func65, Tryd.ntmps65
    go_wp2
    rw [← hw1]
    have hB1 : B ≤ w1.heap.size := by omega
    clear hw1 h1 h2 h
    go_region_held3 (fun w' => w'.cell? ⟨w.heap.size, 0, none⟩ = some (.iface Ta xa) ∧ w'.cell? ⟨w.heap.size, 1, none⟩ = some (.iface Tb xb))
      (first | assumption | exact ⟨c0, c1⟩ | exact CE1 | exact CE2)
      (first
        | (go_at_call 65; refine (A2.out w2 v2 HO2.out HB2.out).mono ?_; rintro e w3 ⟨v3, rfl, own3, F3, loc3⟩; have CE2 : w3.cell? ⟨w.heap.size, 0, none⟩ = some (.iface Ta xa) ∧ w3.cell? ⟨w.heap.size, 1, none⟩ = some (.iface Tb xb) := ⟨(by rw [F3.cell HS2.out HN2.out]; exact CE1.1), (by rw [F3.cell HS2.out HN2.out]; exact CE1.2)⟩; have HO3 := hide own3; have HF3 := hide (HF2.out.on F3 LOC2.out); have LOC3 := hide loc3; have HS3 := hide F3.g.size; clear own3 F3 loc3)
        | (go_at_call 65; refine (A1.out _ (.inr rfl)).mono ?_; rintro e w2 ⟨v2, rfl, own2, F2, loc2⟩; have F2' := F2.drewL; have HN1 : v.ownBlock ≠ some w.heap.size := (fun e => by have := HV.out _ e; omega); have CE1 : w2.cell? ⟨w.heap.size, 0, none⟩ = some (.iface Ta xa) ∧ w2.cell? ⟨w.heap.size, 1, none⟩ = some (.iface Tb xb) := ⟨(by rw [F2'.cell (by omega) HN1]; exact c0), (by rw [F2'.cell (by omega) HN1]; exact c1)⟩; have HF2 := hide (F1.trans F2'); have HO2 := hide own2; have HS2 : Hid (w.heap.size < w2.heap.size) := hide (by have := F2'.g.size; omega); have HB2 : Hid (B ≤ w2.heap.size) := hide (by have := F2'.g.size; omega); have HN2 : Hid (v2.ownBlock ≠ some w.heap.size) := hide (own_off HN1 loc2 (by show w.heap.size < w1.heap.size; omega)); have LOC2 : Hid (v2.ownBlock = v.ownBlock ∨ ∀ y, v2.ownBlock = some y → w.heap.size ≤ y) := hide (loc2.imp id (fun k y hy => by have := k y hy; simp at this; omega)); clear own2 F2 loc2 F2'))
    go_wp2
    go_ret
    refine ⟨v3, rfl, ?_, HF3.out, ?_⟩
    · rw [Lm.pcs, ← List.append_assoc]; exact HO3.out
    · rcases LOC3.out with k | k
      · rw [k]; exact LOC2.out
      · exact .inr (fun y hy => by have := k y hy; have := HS2.out; omega)
end Go.Proofs.YtkjioadmebkaoaaDoor

set_option linter.unusedVariables false
namespace Go.Proofs.YtkjioadmebkaoaaDoor
open Go.RowKit
open Doc1

/-- A text cut into pieces. -/
def cutP (s : ByteArray) (i : Nat) : ByteArray := s.extract (8 * i) (min (8 * i + 8) s.size)
def cutN (s : ByteArray) : Nat := (s.size + 7) / 8
def cutL (s : ByteArray) : List ByteArray := (List.range (cutN s)).map (cutP s)
theorem cutL_len (s : ByteArray) : (cutL s).length = cutN s := by simp [cutL]

set_option maxRecDepth 100000 in
set_option maxHeartbeats 4000000 in
theorem cutInPieces_any (s : ByteArray) (w : World) (hs : s.size ≤ 100000) :
    Calls Tryd.prog 59 #[.string s] w fun e w' => ∃ v, e = .returned v ∧ PcOwn w' w.heap.size v (cutL s) ∧ Below w.heap.size w w' := by
  obtain ⟨i0, hi0, hz0, hz1, hz2⟩ := info_parts Tryd.infoPiece
  go_enter Tryd.func59, Tryd.ntmps59
  go_wp2
  go_loopw [3, 4] (fun v va wr => ∃ (k : Nat), k ≤ cutN s ∧ va = .int .i64 ((8 * k : Nat) : Int) ∧ ∃ v0, v0 = v ∧ Hid (PcOwn wr w.heap.size v0 ((List.range k).map (cutP s)) ∧ Below w.heap.size w wr)) (fun _ va _ => s.size + 8 - (intOf va).toNat)
  case atStart => exact ⟨0, Nat.zero_le _, rfl, _, rfl, hide ⟨PcOwn.nil _ _, Below.refl _ _⟩⟩
  case round =>
    obtain ⟨k, hk, rfl, v, hv0, HR⟩ := hrel
    subst hv0
    unfold cutN at hk
    by_cases hlt : 8 * k < s.size
    · obtain ⟨a, ha⟩ : ∃ a, a = 8 * k := ⟨_, rfl⟩
      rw [← ha] at hlt ⊢
      obtain ⟨m, hm⟩ : ∃ m : Nat, m = min (a + 8) s.size := ⟨_, rfl⟩
      have e1 : IntKind.i64.wrap ((a : Int) + 8) = (a : Int) + 8 := by rw [IntKind.wrap_i64]; omega
      have e2 : min ((a : Int) + 8) (s.size : Int) = (m : Int) := by omega
      have hb1 : (a : Int) ≤ (m : Int) := by omega
      have hb2 : (m : Int) ≤ (s.size : Int) := by omega
      have HC : Hid (s.extract a m = cutP s k) := hide (by unfold cutP; rw [hm, ha])
      have hkk : k ≤ 20000 := by omega
      have HK : Hid (k + 1 ≤ cutN s ∧ a = 8 * k) := hide ⟨by unfold cutN; omega, ha⟩
      clear hm ha hk
      have hB := HR.out.2.size
      go_wp2_with (at_builtin; go_loud (refine wpList_append_loc _ rfl _ _ 108 rfl w.heap.size 200 i0 (.string ⟨#[]⟩) 1 16 Tryd.underlying108 hi0 hz0 hz1 hz2 rfl (by decide) _ _ _ rfl (World.ownsRow.alloc HR.out.1 _) ⟨wr.heap.size, 0, none⟩ 1 1 [.string (s.extract a m)] rfl rfl (World.news_of_block (cs := #[.string (s.extract a m)]) (t := 200) (fr := (0, 0)) (heap_alloc_new wr _)) (by simp [Value.oneCell']) (by unfold maxLen; simp; omega) (by simp; omega) (by simp; omega) ?_); intro v3 w3 own3 grow3 loc3; have HR3 : Hid (PcOwn w3 w.heap.size v3 ((List.range (k + 1)).map (cutP s)) ∧ Below w.heap.size w w3) := hide ⟨(by rw [List.range_succ, List.map_append, List.map_singleton, ← HC.out]; exact PcOwn.app own3), below_append HR.out.2 HR.out.1 hB grow3⟩; clear own3 grow3 loc3 HR)
      exact ⟨⟨k + 1, HK.out.1, by rw [HK.out.2]; congr 1, v3, rfl, HR3⟩, by simp [intOf]; omega⟩
    · have HE : Hid ((List.range k).map (cutP s) = cutL s) := hide (by unfold cutL cutN; rw [show k = (s.size + 7) / 8 by omega])
      have hd : decide (((8 * k : Nat) : Int) < (s.size : Int)) = false := by rw [decide_eq_false_iff_not]; omega
      go_wp2
      go_ret
      exact ⟨v, rfl, by rw [← HE.out]; exact HR.out.1, HR.out.2⟩

/-- Texts put together. -/
def catB (l : List ByteArray) : ByteArray := l.foldl (· ++ ·) eT
theorem catB_snoc (l : List ByteArray) (s : ByteArray) : catB (l ++ [s]) = catB l ++ s := by simp [catB]
theorem catB_fold : ∀ (l : List ByteArray) (a : ByteArray), (l.foldl (· ++ ·) a).data.toList = a.data.toList ++ (l.map fun s => s.data.toList).flatten
  | [], a => by simp
  | s :: l, a => by rw [List.foldl_cons, catB_fold l (a ++ s), apdB]; simp
theorem catB_list (l : List ByteArray) : (catB l).data.toList = (l.map fun s => s.data.toList).flatten := by
  unfold catB; rw [catB_fold]; rfl
theorem catB_size (l : List ByteArray) : (catB l).size = tot l := by
  rw [szB, catB_list, List.length_flatten, List.map_map]
  unfold tot
  congr 1
theorem catB_app (l m : List ByteArray) : catB (l ++ m) = catB l ++ catB m := Doc1.ba_eq (by rw [apdB, catB_list, catB_list, catB_list, List.map_append, List.flatten_append])

set_option maxRecDepth 100000 in
set_option maxHeartbeats 4000000 in
theorem textOfPieces_any (l : List ByteArray) (a : Option Addr) (cap : Nat) (w : World) (hs : ∀ i (h : i < l.length), ∃ g, a = some ⟨g, 0, none⟩ ∧ g < w.heap.size ∧ w.cell? ⟨g, i, none⟩ = some (.string l[i])) (hl : l.length ≤ 100000) (hc : l.length ≤ cap ∧ cap ≤ maxLen) (ht : tot l ≤ 100000) :
    Calls Tryd.prog 64 #[.slice a l.length cap] w fun e w' => e = .returned (.string (catB l)) ∧ Below w.heap.size w w' := by
  obtain ⟨i0, hi0, hz0, hz1, hz2⟩ := info_parts Tryd.info5
  have HS := hide hs
  have HT := hide ht
  clear hs ht
  go_enter Tryd.func64, Tryd.ntmps64
  go_wp2
  go_loopw [3, 8] (fun v vi wr => ∃ (k : Nat), k ≤ l.length ∧ vi = .int .i64 (k : Int) ∧ ∃ v0, v0 = v ∧ Hid (ByOwn wr w.heap.size v0 (catB (l.take k)) ∧ Below w.heap.size w wr)) (fun _ vi _ => l.length - (intOf vi).toNat)
  case atStart => exact ⟨0, by omega, rfl, _, rfl, hide ⟨World.ownsRow_nil _ _ _ _, Below.refl _ _⟩⟩
  case round =>
    obtain ⟨k, hk, rfl, v, hv0, HR⟩ := hrel
    subst hv0
    by_cases hlt : k < l.length
    · obtain ⟨g, rfl, hg, c⟩ := HS.out k hlt
      have c1 : wr.cell? ⟨g, k, none⟩ = some (.string l[k]) := (World.cell?_of_block (HR.out.2.block g hg)).trans c
      have HN : Hid (catB (l.take k) ++ l[k] = catB (l.take (k + 1))) := hide (by rw [List.take_succ_eq_append_getElem hlt, catB_snoc])
      have hz : (catB (l.take k)).size + l[k].size ≤ 200000 := by
        have := HT.out; have := tot_take_drop l k; have := tot_at hlt
        rw [catB_size]; omega
      have hB := HR.out.2.size
      clear c
      go_wp2_with (at_builtin; go_loud (refine wpList_str rfl _ _ 22 200 rfl w.heap.size 5 i0 Tryd.underlying22 Tryd.underlying200 hi0 hz0 hz1 hz2 _ _ _ rfl HR.out.1 l[k] rfl (by omega) hB ?_); intro v3 w3 own3 grow3 loc3; have HR3 : Hid (ByOwn w3 w.heap.size v3 (catB (l.take (k + 1))) ∧ Below w.heap.size w w3) := hide ⟨(by rw [← HN.out]; exact ByOwn.app own3), grown_belowB HR.out.2 hB HR.out.1 grow3⟩; clear own3 grow3 loc3 HR)
      exact ⟨⟨k + 1, by omega, by go_num, v3, rfl, HR3⟩, by simp [intOf]; omega⟩
    · have HE : Hid (ByOwn wr w.heap.size v (catB l) ∧ Below w.heap.size w wr) := hide (by have := HR.out; rw [List.take_of_length_le (by omega)] at this; exact this)
      have hcv := ByOwn.conv HE.out.1
      clear HR
      go_wp2
      go_ret
      exact ⟨rfl, HE.out.2⟩
theorem textOfPieces_own {w : World} {B : Nat} {v : Value} {l : List ByteArray} (h : PcOwn w B v l) (hl : l.length ≤ 100000) (ht : tot l ≤ 100000) :
    Calls Tryd.prog 64 #[v] w fun e w' => e = .returned (.string (catB l)) ∧ Below w.heap.size w w' := by
  obtain ⟨a, cap, rfl, k1, k2, hc⟩ := h.at'
  exact textOfPieces_any l a cap w hc hl ⟨k1, k2⟩ ht
end Go.Proofs.YtkjioadmebkaoaaDoor

set_option linter.unusedVariables false
namespace Go.Proofs.YtkjioadmebkaoaaDoor
open Go.RowKit
open Doc1

def SpPost (t : Lm) (n : Nat) (w : World) (e : Ending) (w' : World) : Prop := e = .returned (.tuple #[lvO (spl t n).1, lvO (spl t n).2]) ∧ Below w.heap.size w w'

set_option maxRecDepth 100000 in
set_option maxHeartbeats 4000000 in
theorem splitLimb_zero (v : Value) (w : World) :
    Calls Tryd.prog 72 #[v, .int .i64 0] w fun e w' => e = .returned (.tuple #[.nilIface, v]) ∧ Below w.heap.size w w' := by
  go_enter Tryd.func72, Tryd.ntmps72
  go_wp2
  go_ret2
  exact ⟨rfl, Below.refl _ _⟩

set_option maxRecDepth 100000 in
set_option maxHeartbeats 4000000 in
theorem splitLimb_all (t : Lm) (w : World) (h0 : 0 < t.sz) :
    Calls Tryd.prog 72 #[lv t, .int .i64 (t.sz : Int)] w fun e w' => e = .returned (.tuple #[lv t, .nilIface]) ∧ Below w.heap.size w w' := by
  have L := hide (lengthOf_any (some t) w)
  rw [show lvO (some t) = lv t from rfl, show szO (some t) = t.sz from rfl] at L
  obtain ⟨v, hv⟩ : ∃ v, lv t = v := ⟨_, rfl⟩
  rw [hv] at L ⊢
  have h1 : ((t.sz : Int) == 0) = false := by rw [beq_eq_false_iff_ne]; omega
  clear hv
  go_enter Tryd.func72, Tryd.ntmps72
  go_wp2_with fail
  refine L.out.mono ?_
  rintro e w1 ⟨rfl, hb1⟩
  go_wp2
  go_ret2
  exact ⟨rfl, hb1⟩

set_option maxRecDepth 100000 in
set_option maxHeartbeats 4000000 in
theorem splitLimb_pc (s : ByteArray) (n : Nat) (w : World) (h0 : 0 < n) (hn : n < s.size) (hs : s.size ≤ 100000) :
    Calls Tryd.prog 72 #[.iface 200 (.string s), .int .i64 (n : Int)] w fun e w' => e = .returned (.tuple #[.iface 200 (.string (s.extract 0 n)), .iface 200 (.string (s.extract n s.size))]) ∧ Below w.heap.size w w' := by
  have L := hide (lengthOf_any (some (.pc s)) w)
  rw [show lvO (some (.pc s)) = .iface 200 (.string s) from rfl, show szO (some (.pc s)) = s.size from rfl] at L
  have h1 : ((n : Int) == 0) = false := by rw [beq_eq_false_iff_ne]; omega
  have h2 : ((n : Int) == (s.size : Int)) = false := by rw [beq_eq_false_iff_ne]; omega
  have ht := taP_pc s
  have hb1 : (n : Int) ≤ (s.size : Int) := by omega
  go_enter Tryd.func72, Tryd.ntmps72
  go_wp2_with fail
  refine L.out.mono ?_
  rintro e w1 ⟨rfl, hb1⟩
  go_wp2
  go_region
  all_goals
    go_wp2
    go_ret2
    exact ⟨rfl, hb1.trans (Below.refl _ _).drew⟩
theorem cells3 {w w' : World} {x y z : Value} {T : TypeId} (hb : Below (w.heap.size + 1) (w.alloc (.cells #[x, y, z] T)) w') : w'.cell? ⟨w.heap.size, 0, none⟩ = some x ∧ w'.cell? ⟨w.heap.size, 1, none⟩ = some y := by
  have h : w'.heap[w.heap.size]? = some (.cells #[x, y, z] T) := by rw [hb.block _ (by omega)]; exact heap_alloc_new w _
  exact ⟨by rw [cell_of_row _ _ 0 _ _ (0, 0) h]; rfl, by rw [cell_of_row _ _ 1 _ _ (0, 0) h]; rfl⟩

set_option maxRecDepth 100000 in
set_option maxHeartbeats 4000000 in
theorem splitLimb_jn (a b : Lm) (n : Nat) (w : World) (h0 : 0 < n) (hn : n < a.sz + b.sz) (hs : a.sz + b.sz ≤ 100000) (ha0 : 0 < a.sz)
    (iha : ∀ m w, m ≤ a.sz → Calls Tryd.prog 72 #[lv a, .int .i64 (m : Int)] w (SpPost a m w)) (ihb : ∀ m w, m ≤ b.sz → Calls Tryd.prog 72 #[lv b, .int .i64 (m : Int)] w (SpPost b m w))
    (za : ∀ m, m ≤ a.sz → szO (spl a m).2 ≤ 100000) (zb : ∀ m, m ≤ b.sz → szO (spl b m).1 ≤ 100000) :
    Calls Tryd.prog 72 #[lv (.jn a b), .int .i64 (n : Int)] w (SpPost (.jn a b) n w) := by
  have L := hide (lengthOf_any (some (.jn a b)) w)
  obtain ⟨Ta, xa, Ka, hva, ka, ma, ca⟩ := lv_size a
  obtain ⟨Tb, xb, -, hvb, -⟩ := lv_size b
  have JA := hide (fun o w (h : szO o ≤ 1000000) => joinLimbs_any o (some b) w h (by simp only [szO]; omega))
  have JB := hide (fun o w (h : szO o ≤ 1000000) => joinLimbs_any (some a) o w (by simp only [szO]; omega) h)
  rw [show lvO (some a) = .iface Ta xa from hva] at JB
  rw [show lvO (some b) = .iface Tb xb from hvb] at JA
  obtain ⟨z, hz⟩ : ∃ z : Nat, z = a.sz + b.sz := ⟨_, rfl⟩
  have hlv : lv (.jn a b) = .iface 205 (.agg #[.iface Ta xa, .iface Tb xb, .int .i64 (z : Int)]) := by
    show Value.iface _ (.agg #[lv a, lv b, _]) = _
    rw [hva, hvb, hz]
  rw [show lvO (some (.jn a b)) = lv (.jn a b) from rfl, hlv, show szO (some (.jn a b)) = a.sz + b.sz from rfl, ← hz] at L
  rw [hlv]
  have HS : Hid (spl (.jn a b) n = if n ≤ a.sz then ((spl a n).1, jo (spl a n).2 (some b)) else (jo (some a) (spl b (n - a.sz)).1, (spl b (n - a.sz)).2)) := hide (by simp only [spl]; rw [if_neg (by omega), if_neg (by omega)])
  rw [hva] at iha
  rw [hvb] at ihb
  have IA := hide iha
  have IB := hide ihb
  have ZA := hide za
  have ZB := hide zb
  have CA := hide ca
  have h1 : ((n : Int) == 0) = false := by rw [beq_eq_false_iff_ne]; omega
  have h2 : ((n : Int) == (z : Int)) = false := by rw [beq_eq_false_iff_ne]; omega
  have ht1 := taP_jn (.agg #[.iface Ta xa, .iface Tb xb, .int .i64 (z : Int)])
  have ht2 := taJ_sure (.agg #[.iface Ta xa, .iface Tb xb, .int .i64 (z : Int)])
  have hnz : n < z ∧ z ≤ 100000 := by omega
  have HZ := hide hz
  unfold SpPost at *
  clear iha ihb za zb ca hlv hva hvb hz hn hs
  by_cases hc : n ≤ a.sz
  · rw [HS.out, if_pos hc]
    have hc' : decide ((n : Int) ≤ (a.sz : Int)) = true := by rw [decide_eq_true_iff]; omega
    have I := hide (fun w => IA.out n w hc)
    have J := hide (fun w => JA.out (spl a n).2 w (by have := ZA.out n hc; omega))
    obtain ⟨o1, ho1⟩ : ∃ o1, (spl a n).1 = o1 := ⟨_, rfl⟩
    obtain ⟨o2, ho2⟩ : ∃ o2, (spl a n).2 = o2 := ⟨_, rfl⟩
    rw [ho1, ho2] at I ⊢
    rw [ho2] at J
    obtain ⟨v1, hv1⟩ : ∃ v, lvO o1 = v := ⟨_, rfl⟩
    obtain ⟨v2, hv2⟩ : ∃ v, lvO o2 = v := ⟨_, rfl⟩
    obtain ⟨v3, hv3⟩ : ∃ v, lvO (jo o2 (some b)) = v := ⟨_, rfl⟩
    simp only [hv1, hv2, hv3] at I J ⊢
    clear ho1 ho2 hv1 hv2 hv3 HS IA IB JA JB ZA ZB HZ
    go_enter Tryd.func72, Tryd.ntmps72
    go_wp2_with fail
    refine L.out.mono ?_
    rintro e w1 ⟨rfl, hb1⟩
    have HB1 := hide hb1
    clear hb1
    go_wp2_with fail
    refine (CA.out _).mono ?_
    rintro e w2 ⟨rfl, hb2⟩
    have hsz : (w1.alloc (.cells #[.iface Ta xa, .iface Tb xb, .int .i64 (z : Int)] 205)).heap.size = w1.heap.size + 1 := by simp
    rw [hsz] at hb2
    obtain ⟨c0, c1⟩ := cells3 hb2
    have HB2 := hide hb2
    have hs2 := hb2.size
    rw [hsz] at hs2
    clear hb2 hsz
    go_wp2_with fail
    refine (I.out w2).mono ?_
    rintro e w3 ⟨rfl, hb3⟩
    have c1' : w3.cell? ⟨w1.heap.size, 1, none⟩ = some (.iface Tb xb) := (World.cell?_of_block (hb3.block _ (by show w1.heap.size < _; omega))).trans c1
    have HB3 := hide hb3
    clear hb3 c0 c1
    go_wp2_with fail
    refine (J.out w3).mono ?_
    rintro e w4 ⟨rfl, hb4⟩
    have HB4 := hide hb4
    clear hb4
    go_wp2
    go_ret2
    have q1 := HB1.out
    have q2 : Below w1.heap.size w1 w2 := ((Below.refl _ _).alloc (Nat.le_refl _) _).trans (HB2.out.mono (by omega))
    have q3 := HB3.out
    have q4 := HB4.out
    exact ⟨rfl, q1.trans ((q2.trans ((q3.trans (q4.mono q3.size)).mono q2.size)).mono q1.size)⟩
  · rw [HS.out, if_neg hc]
    have hc' : decide ((n : Int) ≤ (a.sz : Int)) = false := by rw [decide_eq_false_iff_not]; omega
    have hle : n - a.sz ≤ b.sz := by have := HZ.out; omega
    have I := hide (fun w => IB.out (n - a.sz) w hle)
    have J := hide (fun w => JB.out (spl b (n - a.sz)).1 w (by have := ZB.out (n - a.sz) hle; omega))
    obtain ⟨o1, ho1⟩ : ∃ o1, (spl b (n - a.sz)).1 = o1 := ⟨_, rfl⟩
    obtain ⟨o2, ho2⟩ : ∃ o2, (spl b (n - a.sz)).2 = o2 := ⟨_, rfl⟩
    rw [ho1, ho2] at I ⊢
    rw [ho1] at J
    obtain ⟨v1, hv1⟩ : ∃ v, lvO o1 = v := ⟨_, rfl⟩
    obtain ⟨v2, hv2⟩ : ∃ v, lvO o2 = v := ⟨_, rfl⟩
    obtain ⟨v3, hv3⟩ : ∃ v, lvO (jo (some a) o1) = v := ⟨_, rfl⟩
    simp only [hv1, hv2, hv3] at I J ⊢
    have ew : IntKind.i64.wrap ((n : Int) - (a.sz : Int)) = ((n - a.sz : Nat) : Int) := by rw [IntKind.wrap_i64]; omega
    obtain ⟨d, hd⟩ : ∃ d : Nat, n - a.sz = d := ⟨_, rfl⟩
    rw [hd] at ew I
    clear ho1 ho2 hv1 hv2 hv3 HS IA IB JA JB ZA ZB HZ hd hle
    go_enter Tryd.func72, Tryd.ntmps72
    go_wp2_with fail
    refine L.out.mono ?_
    rintro e w1 ⟨rfl, hb1⟩
    have HB1 := hide hb1
    clear hb1
    go_wp2_with fail
    refine (CA.out _).mono ?_
    rintro e w2 ⟨rfl, hb2⟩
    have hsz : (w1.alloc (.cells #[.iface Ta xa, .iface Tb xb, .int .i64 (z : Int)] 205)).heap.size = w1.heap.size + 1 := by simp
    rw [hsz] at hb2
    have CC := cells3 hb2
    have HB2 := hide hb2
    have hs2 := hb2.size
    rw [hsz] at hs2
    clear hb2 hsz
    go_upto_region 13 with fail
    go_cut [11, 12] from 55 to 65 (fun u1 u2 wx => u1 = v1 ∧ u2 = v2 ∧ Below w2.heap.size w2 wx)
    case first =>
      go_region_held3 (fun w' => w'.cell? ⟨w1.heap.size, 0, none⟩ = some (.iface Ta xa) ∧ w'.cell? ⟨w1.heap.size, 1, none⟩ = some (.iface Tb xb))
        (first | assumption | exact CC | exact CC3 | exact CC4)
        (first
          | (go_at_call 72; refine (I.out w3).mono ?_; rintro e w4 ⟨rfl, hb4⟩; have CC4 : w4.cell? ⟨w1.heap.size, 0, none⟩ = some (.iface Ta xa) ∧ w4.cell? ⟨w1.heap.size, 1, none⟩ = some (.iface Tb xb) := ⟨(World.cell?_of_block (hb4.block _ (by show w1.heap.size < _; have := hb3.size; simp at this; omega))).trans CC3.1, (World.cell?_of_block (hb4.block _ (by show w1.heap.size < _; have := hb3.size; simp at this; omega))).trans CC3.2⟩)
          | (refine (CA.out _).mono ?_; rintro e w3 ⟨rfl, hb3⟩; have CC3 : w3.cell? ⟨w1.heap.size, 0, none⟩ = some (.iface Ta xa) ∧ w3.cell? ⟨w1.heap.size, 1, none⟩ = some (.iface Tb xb) := ⟨(World.cell?_of_block (hb3.block _ (by show w1.heap.size < _; simp; omega))).trans CC.1, (World.cell?_of_block (hb3.block _ (by show w1.heap.size < _; simp; omega))).trans CC.2⟩))
      all_goals
        go_wp2_with fail
        go_meet
        case rel => exact ⟨rfl, rfl, (Below.refl _ _).drew.trans (hb3.trans (hb4.mono hb3.size))⟩
    case rest =>
      obtain ⟨rfl, rfl, hbx⟩ := hcut
      have c0 := (World.cell?_of_block (hbx.block _ (by show w1.heap.size < _; omega))).trans CC.1
      have HBX := hide hbx
      clear hbx CC
      go_wp2_with fail
      refine (J.out _).mono ?_
      rintro e w4 ⟨rfl, hb4⟩
      have HB4 := hide hb4
      clear hb4
      go_wp2
      go_ret2
      have q1 := HB1.out
      have q2 : Below w1.heap.size w1 w2 := ((Below.refl _ _).alloc (Nat.le_refl _) _).trans (HB2.out.mono (by omega))
      have q3 := HBX.out
      have q4 := HB4.out
      exact ⟨rfl, q1.trans ((q2.trans ((q3.trans (q4.mono q3.size)).mono q2.size)).mono q1.size)⟩

theorem spl_sz (t : Lm) : ∀ n, n ≤ t.sz → szO (spl t n).1 = n ∧ szO (spl t n).2 = t.sz - n := by
  induction t with
  | pc s =>
    intro n hn
    simp only [Lm.sz] at hn ⊢
    simp only [spl]
    split
    · subst n; exact ⟨rfl, rfl⟩
    · split
      · subst n; exact ⟨rfl, (Nat.sub_self _).symm⟩
      · simp only [szO, Lm.sz, ByteArray.size_extract]; omega
  | jn a b iha ihb =>
    intro n hn
    simp only [Lm.sz] at hn ⊢
    simp only [spl]
    split
    · subst n; exact ⟨rfl, rfl⟩
    · split
      · subst n; exact ⟨rfl, (Nat.sub_self _).symm⟩
      · split
        · rename_i h1 h2 h3
          have := iha n h3
          refine ⟨this.1, ?_⟩
          show szO (jo (spl a n).2 (some b)) = _
          rw [jo_sz, this.2]
          simp only [szO]; omega
        · rename_i h1 h2 h3
          have := ihb (n - a.sz) (by omega)
          refine ⟨?_, ?_⟩
          · show szO (jo (some a) (spl b (n - a.sz)).1) = _
            rw [jo_sz, this.1]
            simp only [szO]; omega
          · show szO (spl b (n - a.sz)).2 = _
            rw [this.2]; omega

theorem splitLimb_any (t : Lm) : ∀ (n : Nat) (w : World), n ≤ t.sz → t.gd → t.sz ≤ 100000 → Calls Tryd.prog 72 #[lv t, .int .i64 (n : Int)] w (SpPost t n w) := by
  induction t with
  | pc s =>
    intro n w hn hg hz
    have h8 := (gd_sz hg).1
    by_cases h0 : n = 0
    · subst h0
      unfold SpPost
      rw [spl_zero]
      exact splitLimb_zero _ w
    · by_cases h1 : n = s.size
      · subst h1
        unfold SpPost
        have e : spl (.pc s) s.size = (some (.pc s), none) := spl_all (.pc s) h8
        rw [e]
        exact splitLimb_all (.pc s) w h8
      · unfold SpPost
        have e : spl (.pc s) n = (some (.pc (s.extract 0 n)), some (.pc (s.extract n s.size))) := by simp only [spl]; rw [if_neg h0, if_neg h1]
        rw [e]
        simp only [Lm.sz] at hn hz
        exact splitLimb_pc s n w (by omega) (by omega) (by omega)
  | jn a b iha ihb =>
    intro n w hn hg hz
    have h8 := (gd_sz hg).1
    obtain ⟨ga, gb⟩ := gd_jn.1 hg
    have sa := (gd_sz ga).1
    have sb := (gd_sz gb).1
    by_cases h0 : n = 0
    · subst h0
      unfold SpPost
      rw [spl_zero]
      exact splitLimb_zero _ w
    · by_cases h1 : n = (Lm.jn a b).sz
      · subst h1
        unfold SpPost
        rw [spl_all _ h8]
        exact splitLimb_all _ w h8
      · simp only [Lm.sz] at hn hz h1
        exact splitLimb_jn a b n w (by omega) (by omega) hz sa (fun m w hm => iha m w hm ga (by omega)) (fun m w hm => ihb m w hm gb (by omega)) (fun m hm => by have := (spl_sz a m hm).2; omega) (fun m hm => by have := (spl_sz b m hm).1; omega)
/-- Of a limb or none. -/
theorem splitLimb_opt (o : Option Lm) (n : Nat) (w : World) (hn : n ≤ szO o) (hg : gdO o) (hz : szO o ≤ 100000) : Calls Tryd.prog 72 #[lvO o, .int .i64 (n : Int)] w fun e w' => e = .returned (.tuple #[lvO (splO o n).1, lvO (splO o n).2]) ∧ Below w.heap.size w w' := by
  cases o with
  | none =>
    have h0 : n = 0 := by simp only [szO] at hn; omega
    subst h0
    exact splitLimb_zero _ w
  | some t => exact splitLimb_any t n w hn hg hz
end Go.Proofs.YtkjioadmebkaoaaDoor

set_option linter.unusedVariables false
namespace Go.Proofs.YtkjioadmebkaoaaDoor
open Go.RowKit
open Doc1

set_option maxRecDepth 100000 in
theorem bgNeq (x y : Bg) (w : World) : (binOp .neq 36 (bgV x) (bgV y)).run Tryd.prog w = .ok (.bool (decide (x ≠ y))) w := by
  unfold bgV
  by_cases e : x = y
  · subst e
    simp [go_sem]
  · have hd : decide (x ≠ y) = true := decide_eq_true e
    rw [hd]
    have hx : ¬ (x.left = y.left ∧ x.right = y.right ∧ x.text.toList = y.text.toList ∧ x.size = y.size ∧ x.deep = y.deep) := fun ⟨h1, h2, h3, h4, h5⟩ => e (by
      have h3' : x.text = y.text := ba_eq (by rw [ByteArray.toList_eq, ByteArray.toList_eq] at h3; exact h3)
      cases x; cases y; simp_all)
    by_cases h1 : x.left = y.left
    · by_cases h2 : x.right = y.right
      · by_cases h3 : x.text.toList = y.text.toList
        · by_cases h4 : x.size = y.size
          · by_cases h5 : x.deep = y.deep
            · exact absurd ⟨h1, h2, h3, h4, h5⟩ hx
            · simp [go_sem, h1, h2, h3, h4, h5]
          · simp [go_sem, h1, h2, h3, h4]
        · simp [go_sem, h1, h2, h3]
      · simp [go_sem, h1, h2]
    · simp [go_sem, h1]

set_option maxRecDepth 100000 in
set_option maxHeartbeats 4000000 in
theorem equalBo_at (ga gb ca cb : Nat) (la lb : List Bg) (w : World) (hm : la.length ≤ 10000000) (hl : la.length = lb.length) (h1 : la.length ≤ ca ∧ ca ≤ maxLen) (h2 : lb.length ≤ cb ∧ cb ≤ maxLen) (ha : CLs w ga (encBo la)) (hb : CLs w gb (encBo lb)) (hga : ga < w.heap.size) (hgb : gb < w.heap.size) :
    Calls Tryd.prog 145 #[.slice (some ⟨ga, 0, none⟩) la.length ca, .slice (some ⟨gb, 0, none⟩) lb.length cb] w fun e w' => e = .returned (.bool (decide (la = lb))) ∧ Below w.heap.size w w' := by
  go_enter Tryd.func145, Tryd.ntmps145
  go_wp2
  go_loopw [13] (fun i wr => ∃ k : Nat, k ≤ la.length ∧ i = .int .i64 k ∧ Hid (la.take k = lb.take k) ∧ Hid (Below w.heap.size w wr)) (fun i _ => la.length - (intOf i).toNat)
  case atStart => exact ⟨0, by omega, rfl, hide rfl, hide (Below.refl _ _)⟩
  case round =>
    obtain ⟨k, hk, rfl, hp, hbel⟩ := hrel
    by_cases hlt : k < la.length
    · have hltb : k < lb.length := by omega
      obtain ⟨a0, a1, a2, a3, a4⟩ := (ha.later hbel.out hga).bgat k hlt
      obtain ⟨b0, b1, b2, b3, b4⟩ := (hb.later hbel.out hgb).bgat k hltb
      have hq := fun w => bgNeq la[k] lb[k] w
      unfold bgV at hq
      by_cases e : la[k] = lb[k]
      · have Hs : Hid (la.take (k + 1) = lb.take (k + 1)) := hide (by rw [List.take_succ_eq_append_getElem hlt, List.take_succ_eq_append_getElem hltb, hp.out, e])
        rw [← e] at b0 b1 b2 b3 b4
        clear e hq ha hb
        go_wp2
        go_quiet (fail)
        go_wp2
        go_roundw
        case rel => exact ⟨k + 1, by omega, by go_num, Hs, hide (hbel.out.trans ⟨rfl, rfl, rfl, Nat.le_refl _, fun _ _ => rfl⟩)⟩
        case measure => simp [intOf]; omega
      · have Hne : Hid (la ≠ lb) := hide (fun h => e (by subst h; rfl))
        rw [show decide (la[k] ≠ lb[k]) = true from decide_eq_true e] at hq
        clear e ha hb
        go_wp2
        go_quiet (fail)
        go_wp2
        go_ret
        exact ⟨ret_bool (decide_eq_false Hne.out).symm, hbel.out.trans ⟨rfl, rfl, rfl, Nat.le_refl _, fun _ _ => rfl⟩⟩
    · obtain rfl : k = la.length := by omega
      have E : la = lb := by
        have := hp.out
        rw [List.take_length, hl, List.take_length] at this
        exact this
      have HE := hide E
      clear ha hb E
      go_wp2
      go_ret
      exact ⟨ret_bool (decide_eq_true HE.out).symm, hbel.out⟩

set_option maxRecDepth 100000 in
set_option maxHeartbeats 4000000 in
theorem equalBo_len (a b : Option Addr) (na nb ca cb : Nat) (w : World) (hl : ¬ na = nb) :
    Calls Tryd.prog 145 #[.slice a na ca, .slice b nb cb] w fun e w' => e = .returned (.bool false) ∧ Below w.heap.size w w' := by
  go_enter Tryd.func145, Tryd.ntmps145
  go_wp2
  go_ret
  exact ⟨rfl, Below.refl _ _⟩

set_option maxRecDepth 100000 in
set_option maxHeartbeats 4000000 in
theorem isPiece_any (s : ByteArray) (w : World) (hT : Tab w) (hs : s.size ≤ 9223372036854775807) :
    Calls Tryd.prog 144 #[.string s] w fun e w' => e = .returned (.bool (gpc s)) ∧ w' = w := by
  by_cases h0 : s.size = 0
  · have he : s.toList.isEmpty = true := by rw [Lib.toList_data, List.isEmpty_iff_length_eq_zero, ← szB]; exact h0
    have hg : gpc s = false := by unfold gpc; rw [h0]; rfl
    rw [hg]
    go_enter Tryd.func144, Tryd.ntmps144
    go_wp2
    go_ret
    exact ⟨rfl, rfl⟩
  · have he : s.toList.isEmpty = false := by rw [Lib.toList_data, List.isEmpty_eq_false_iff, ← List.length_pos_iff, ← szB]; omega
    by_cases h8 : s.size ≤ 8
    · have G := hide (goodTextI_any s w (by omega) hT)
      have hg : gpc s = good s.data.toList := by unfold gpc; rw [decide_eq_true (show 0 < s.size by omega), decide_eq_true h8]; rfl
      rw [hg]
      have hd : decide ((s.size : Int) ≤ 8) = true := by rw [decide_eq_true_iff]; omega
      obtain ⟨b, hb⟩ : ∃ b, good s.data.toList = b := ⟨_, rfl⟩
      rw [hb] at G ⊢
      clear hg hb
      go_enter Tryd.func144, Tryd.ntmps144
      go_wp2_with fail
      refine G.out.mono ?_
      rintro e w' ⟨rfl, rfl⟩
      go_wp2
      go_ret
      exact ⟨rfl, rfl⟩
    · have hg : gpc s = false := by unfold gpc; rw [decide_eq_false h8]; simp
      have hd : decide ((s.size : Int) ≤ 8) = false := by rw [decide_eq_false_iff_not]; omega
      rw [hg]
      go_enter Tryd.func144, Tryd.ntmps144
      go_wp2
      go_ret
      exact ⟨rfl, rfl⟩
end Go.Proofs.YtkjioadmebkaoaaDoor
