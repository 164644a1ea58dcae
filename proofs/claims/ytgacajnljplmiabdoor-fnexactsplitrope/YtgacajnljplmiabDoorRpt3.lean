/- The model's own helpers over ropes, on: pieces told, texts, sizes; where a bough's own boughs begin (mathematics). -/
import Derived.Test.YtgacajnljplmiabDoorRpt2
set_option linter.unusedVariables false
namespace Go.Proofs.YtgacajnljplmiabDoor
open Go.RowKit
open Doc1

/-- The pieces among boughs. -/
def pcsL (l : List Bg) : List ByteArray := (l.filter fun b => decide (b.left < 0)).map (·.text)

theorem pcsL_app (a b : List Bg) : pcsL (a ++ b) = pcsL a ++ pcsL b := by simp [pcsL]

theorem pcsL_pd (t : Lm) : ∀ o, pcsL (t.pd o) = t.pcs := by
  induction t with
  | pc s => intro o; rfl
  | jn a b iha ihb =>
    intro o
    have := Lm.nb_pos a
    simp only [Lm.pd, pcsL_app, iha, ihb, Lm.pcs]
    have e : pcsL [(⟨((o + a.nb : Nat) : Int) - 1, ((o + a.nb + b.nb : Nat) : Int) - 1, eT, ((a.sz + b.sz : Nat) : Int), ((max a.dp b.dp + 1 : Nat) : Int)⟩ : Bg)] = [] := by
      unfold pcsL
      rw [List.filter_cons, if_neg (by simp only [decide_eq_true_eq]; omega)]
      rfl
    rw [e, List.append_nil]

theorem pcsL_bo (o : Option Lm) : pcsL (bo o) = pcO o := by
  cases o with
  | none => rfl
  | some t => exact pcsL_pd t 0

theorem pcsL_len (l : List Bg) : (pcsL l).length ≤ l.length := by unfold pcsL; rw [List.length_map]; exact List.length_filter_le _ _

set_option maxRecDepth 100000 in
set_option maxHeartbeats 4000000 in
theorem l12Pieces_any {w : World} {a : Option Addr} {cap : Nat} {l : List Bg} (h : BoIn w a cap l) (hl : l.length ≤ 100000) :
    Calls Tryd.prog 84 #[.slice a l.length cap] w fun e w' => ∃ v, e = .returned v ∧ TxOwn w' w.heap.size v (pcsL l) ∧ Below w.heap.size w w' := by
  obtain ⟨i0, hi0, hz0, hz1, hz2⟩ := info_parts Tryd.infoStr
  have HI := hide h
  have hcl := h.le
  have hcm := h.mx
  unfold maxLen at hcm
  clear h
  go_enter Tryd.func84, Tryd.ntmps84
  go_wp2
  go_loopw [3, 8] (fun v vi wr => ∃ (k : Nat), k ≤ l.length ∧ vi = .int .i64 (k : Int) ∧ ∃ v0, v0 = v ∧ Hid (TxOwn wr w.heap.size v0 (pcsL (l.take k)) ∧ Below w.heap.size w wr)) (fun _ vi _ => l.length - (intOf vi).toNat)
  case atStart => exact ⟨0, by omega, rfl, _, rfl, hide ⟨World.ownsRow_nil _ _ _ _, Below.refl _ _⟩⟩
  case round =>
    obtain ⟨k, hk, rfl, v, hv0, HR⟩ := hrel
    subst hv0
    by_cases hlt : k < l.length
    · have hne : l ≠ [] := fun c => by rw [c] at hlt; simp at hlt
      obtain ⟨g, rfl, hg, hcs⟩ := (HI.out.later HR.out.2).ad hne
      obtain ⟨b0, b1, b2, b3, b4⟩ := hcs.bgat k hlt
      have hB := HR.out.2.size
      have hpl := pcsL_len (l.take k)
      rw [List.length_take] at hpl
      have HT : Hid (pcsL (l.take (k + 1)) = pcsL (l.take k) ++ pcsL [l[k]]) := hide (by rw [List.take_succ_eq_append_getElem hlt, pcsL_app])
      obtain ⟨x, hx⟩ : ∃ x, l[k] = x := ⟨_, rfl⟩
      rw [hx] at b0 b1 b2 b3 b4 HT
      clear hcs hx
      by_cases h0 : x.left < 0
      · have e0 : decide (x.left < 0) = true := decide_eq_true h0
        have HS : Hid (pcsL [x] = [x.text]) := hide (by unfold pcsL; rw [List.filter_cons, if_pos (by simpa using h0)]; rfl)
        go_wp2_with (at_builtin; go_loud (refine wpList_append_loc _ rfl _ _ 23 rfl w.heap.size 9 i0 (.string ⟨#[]⟩) 1 16 Tryd.underlying23 hi0 hz0 hz1 hz2 rfl (by decide) _ _ _ rfl (World.ownsRow.alloc (World.ownsRow.alloc HR.out.1 _) _) ⟨wr.heap.size + 1, 0, none⟩ 1 1 [.string x.text] rfl rfl (cell_two_new wr _ _ _) (by simp [Value.oneCell']) (by unfold maxLen; omega) (by omega) (by simp; omega) ?_); intro v5 w5 own5 grow5 loc5; have HR5 : Hid (TxOwn w5 w.heap.size v5 (pcsL (l.take (k + 1))) ∧ Below w.heap.size w w5) := hide ⟨(by rw [HT.out, HS.out]; exact TxOwn.app own5), below_append (HR.out.2.alloc hB _) (World.ownsRow.alloc HR.out.1 _) (by simp; omega) grow5⟩; clear own5 grow5 loc5 HR)
        exact ⟨⟨k + 1, by omega, by go_num, v5, rfl, HR5⟩, by simp [intOf]; omega⟩
      · have e0 : decide (x.left < 0) = false := decide_eq_false h0
        have HS : Hid (pcsL [x] = []) := hide (by unfold pcsL; rw [List.filter_cons, if_neg (by simpa using h0)]; rfl)
        have HR5 : Hid (∀ o, TxOwn (wr.alloc o) w.heap.size v (pcsL (l.take (k + 1))) ∧ Below w.heap.size w (wr.alloc o)) := hide (fun o => ⟨by rw [HT.out, HS.out, List.append_nil]; exact World.ownsRow.alloc HR.out.1 _, HR.out.2.alloc hB _⟩)
        clear HR
        go_wp2
        exact ⟨⟨k + 1, by omega, by go_num, v, rfl, hide (HR5.out _)⟩, by simp [intOf]; omega⟩
    · have HE : Hid (TxOwn wr w.heap.size v (pcsL l) ∧ Below w.heap.size w wr) := hide (by
        have := HR.out
        rw [List.take_of_length_le (by omega)] at this
        exact this)
      clear HR
      go_wp2
      go_ret
      exact ⟨v, rfl, HE.out.1, HE.out.2⟩

set_option maxRecDepth 100000 in
set_option maxHeartbeats 4000000 in
theorem l12Text_any {w : World} {a : Option Addr} {cap : Nat} {l : List Bg} (h : BoIn w a cap l) (hl : l.length ≤ 100000) (ht : tot (pcsL l) ≤ 10000) :
    Calls Tryd.prog 80 #[.slice a l.length cap] w fun e w' => e = .returned (.string (catB (pcsL l))) ∧ Below w.heap.size w w' := by
  have P := hide (l12Pieces_any h hl)
  have hpl := pcsL_len l
  obtain ⟨Q, hQ⟩ : ∃ Q, pcsL l = Q := ⟨_, rfl⟩
  rw [hQ] at P ht hpl ⊢
  have hcl := h.le
  have hcm := h.mx
  unfold maxLen at hcm
  clear h hQ
  go_enter Tryd.func80, Tryd.ntmps80
  go_wp2_with fail
  refine P.out.mono ?_
  rintro e w2 ⟨v2, rfl, own2, hb2⟩
  obtain ⟨a2, c2, rfl, k1, k2, hc⟩ := own2.at'
  have HC := hide hc
  have HB2 := hide hb2
  have hs2 := hb2.size
  clear own2 hc hb2 P
  go_wp2
  go_loopw [3, 9] (fun v vi wr => ∃ (k : Nat) (t : ByteArray), k ≤ Q.length ∧ vi = .int .i64 (k : Int) ∧ v = .string t ∧ t.size ≤ 10000 ∧ Hid (t = catB (Q.take k)) ∧ Hid (Below w2.heap.size w2 wr)) (fun _ vi _ => Q.length - (intOf vi).toNat)
  case atStart => exact ⟨0, ⟨#[]⟩, by omega, rfl, rfl, Nat.zero_le _, hide rfl, hide (Below.refl _ _)⟩
  case round =>
    obtain ⟨k, t, hk, rfl, rfl, htz, HT, HB⟩ := hrel
    by_cases hlt : k < Q.length
    · obtain ⟨g, rfl, hg, c⟩ := HC.out k hlt
      have c1 : wr.cell? ⟨g, k, none⟩ = some (.string Q[k]) := (World.cell?_of_block (HB.out.block g hg)).trans c
      have hq := tot_at hlt
      have HN : Hid (t ++ Q[k] = catB (Q.take (k + 1)) ∧ (t ++ Q[k]).size ≤ 10000) := hide (by
        have e : t ++ Q[k] = catB (Q.take (k + 1)) := by rw [List.take_succ_eq_append_getElem hlt, catB_snoc, HT.out]
        refine ⟨e, ?_⟩
        rw [e, catB_size]
        have := tot_take_drop Q (k + 1)
        omega)
      obtain ⟨x, hx⟩ : ∃ x, Q[k] = x := ⟨_, rfl⟩
      rw [hx] at c1 hq HN
      have hxz : x.size ≤ 10000 := by omega
      clear c hx hq
      go_wp2
      exact ⟨⟨k + 1, t ++ x, by omega, by go_num, rfl, HN.out.2, hide HN.out.1, HB⟩, by simp [intOf]; omega⟩
    · have HE : Hid (catB Q = t) := hide (by rw [HT.out, List.take_of_length_le (by omega)])
      go_wp2
      go_ret
      exact ⟨by rw [HE.out] <;> rfl, HB2.out.trans (HB.out.mono hs2)⟩

def lastZ (l : List Bg) : Int := (l.getLast?.map (·.size)).getD 0

theorem lastZ_bo (o : Option Lm) : lastZ (bo o) = (szO o : Int) := by
  cases o with
  | none => rfl
  | some t =>
    obtain ⟨i, e, -⟩ := Lm.pd_root t 0
    show lastZ (t.pd 0) = _
    unfold lastZ
    rw [e, List.getLast?_concat]
    exact (Lm.rb_is t 0).1

set_option maxRecDepth 100000 in
set_option maxHeartbeats 4000000 in
theorem l12Size_any {w : World} {a : Option Addr} {cap : Nat} {l : List Bg} (h : BoIn w a cap l) (hl : l.length ≤ 10000000) :
    Calls Tryd.prog 67 #[.slice a l.length cap] w fun e w' => e = .returned (.int .i64 (lastZ l)) ∧ w' = w := by
  have hcl := h.le
  have hcm := h.mx
  unfold maxLen at hcm
  by_cases h0 : l = []
  · subst h0
    rw [show ([] : List Bg).length = 0 from rfl, show lastZ [] = 0 from rfl]
    clear h
    go_enter Tryd.func67, Tryd.ntmps67
    go_wp2
    go_ret
    exact ⟨rfl, rfl⟩
  · have hp := List.length_pos_iff.2 h0
    obtain ⟨g, rfl, hg, hc⟩ := h.ad h0
    obtain ⟨n, hn⟩ : ∃ n, l.length = n + 1 := ⟨l.length - 1, by omega⟩
    have c3 := (hc.bgat n (by omega)).2.2.2.1
    have e : lastZ l = l[n].size := by
      unfold lastZ
      rw [List.getLast?_eq_getElem?, show l.length - 1 = n by omega, List.getElem?_eq_getElem (by omega)]
      rfl
    rw [← e] at c3
    have ew : IntKind.i64.wrap (((n + 1 : Nat) : Int) - 1) = (n : Int) := by rw [IntKind.wrap_i64]; omega
    have hl0 : (((n + 1 : Nat) : Int) == 0) = false := by rw [beq_eq_false_iff_ne]; omega
    obtain ⟨z, hz⟩ : ∃ z, lastZ l = z := ⟨_, rfl⟩
    rw [hz] at c3 ⊢
    rw [hn] at hcl ⊢
    obtain ⟨m, hm⟩ : ∃ m, n + 1 = m := ⟨_, rfl⟩
    rw [hm] at ew hl0 hcl ⊢
    have hnm : n < m := by omega
    clear e hn hz hc h hm
    go_enter Tryd.func67, Tryd.ntmps67
    go_wp2
    go_ret
    exact ⟨rfl, rfl⟩
end Go.Proofs.YtgacajnljplmiabDoor
