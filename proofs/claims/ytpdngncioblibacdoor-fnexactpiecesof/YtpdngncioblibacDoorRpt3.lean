/- The model's own helpers over ropes, on: pieces told, texts, sizes; where a bough's own boughs begin (mathematics). -/
import Derived.Test.YtpdngncioblibacDoorRpt2
set_option linter.unusedVariables false
namespace Go.Proofs.YtpdngncioblibacDoor
open Go.RowKit
open Doc1

/-- The pieces among boughs. -/
def pcsL (l : List Bg) : List ByteArray := (l.filter fun b => decide (b.left < 0)).map (·.text)

theorem pcsL_app (a b : List Bg) : pcsL (a ++ b) = pcsL a ++ pcsL b := by simp [pcsL]

theorem pcsL_pd (t : Lm) : ∀ o, pcsL (t.pd o) = t.pcs := by
  induction t with
  | pc s => intro o; rfl
  | jn a b iha ihb =>
    intro o
    have := Lm.nb_pos a
    simp only [Lm.pd, pcsL_app, iha, ihb, Lm.pcs]
    have e : pcsL [(⟨((o + a.nb : Nat) : Int) - 1, ((o + a.nb + b.nb : Nat) : Int) - 1, eT, ((a.sz + b.sz : Nat) : Int), ((max a.dp b.dp + 1 : Nat) : Int)⟩ : Bg)] = [] := by
      unfold pcsL
      rw [List.filter_cons, if_neg (by simp only [decide_eq_true_eq]; omega)]
      rfl
    rw [e, List.append_nil]

theorem pcsL_bo (o : Option Lm) : pcsL (bo o) = pcO o := by
  cases o with
  | none => rfl
  | some t => exact pcsL_pd t 0

theorem pcsL_len (l : List Bg) : (pcsL l).length ≤ l.length := by unfold pcsL; rw [List.length_map]; exact List.length_filter_le _ _

set_option maxRecDepth 100000 in
set_option maxHeartbeats 4000000 in
theorem l12Pieces_any {w : World} {a : Option Addr} {cap : Nat} {l : List Bg} (h : BoIn w a cap l) (hl : l.length ≤ 100000) :
    Calls Tryd.prog 15 #[.slice a l.length cap] w fun e w' => ∃ v, e = .returned v ∧ TxOwn w' w.heap.size v (pcsL l) ∧ Below w.heap.size w w' := by
  obtain ⟨i0, hi0, hz0, hz1, hz2⟩ := info_parts Tryd.infoStr
  have HI := hide h
  have hcl := h.le
  have hcm := h.mx
  unfold maxLen at hcm
  clear h
  go_enter Tryd.func15, Tryd.ntmps15
  go_wp2
  go_loopw [3, 8] (fun v vi wr => ∃ (k : Nat), k ≤ l.length ∧ vi = .int .i64 (k : Int) ∧ ∃ v0, v0 = v ∧ Hid (TxOwn wr w.heap.size v0 (pcsL (l.take k)) ∧ Below w.heap.size w wr)) (fun _ vi _ => l.length - (intOf vi).toNat)
  case atStart => exact ⟨0, by omega, rfl, _, rfl, hide ⟨World.ownsRow_nil _ _ _ _, Below.refl _ _⟩⟩
  case round =>
    obtain ⟨k, hk, rfl, v, hv0, HR⟩ := hrel
    subst hv0
    by_cases hlt : k < l.length
    · have hne : l ≠ [] := fun c => by rw [c] at hlt; simp at hlt
      obtain ⟨g, rfl, hg, hcs⟩ := (HI.out.later HR.out.2).ad hne
      obtain ⟨b0, b1, b2, b3, b4⟩ := hcs.bgat k hlt
      have hB := HR.out.2.size
      have hpl := pcsL_len (l.take k)
      rw [List.length_take] at hpl
      have HT : Hid (pcsL (l.take (k + 1)) = pcsL (l.take k) ++ pcsL [l[k]]) := hide (by rw [List.take_succ_eq_append_getElem hlt, pcsL_app])
      obtain ⟨x, hx⟩ : ∃ x, l[k] = x := ⟨_, rfl⟩
      rw [hx] at b0 b1 b2 b3 b4 HT
      clear hcs hx
      by_cases h0 : x.left < 0
      · have e0 : decide (x.left < 0) = true := decide_eq_true h0
        have HS : Hid (pcsL [x] = [x.text]) := hide (by unfold pcsL; rw [List.filter_cons, if_pos (by simpa using h0)]; rfl)
        go_wp2_with (at_builtin; go_loud (refine wpList_append_loc _ rfl _ _ 26 rfl w.heap.size 9 i0 (.string ⟨#[]⟩) 1 16 Tryd.underlying26 hi0 hz0 hz1 hz2 rfl (by decide) _ _ _ rfl (World.ownsRow.alloc (World.ownsRow.alloc HR.out.1 _) _) ⟨wr.heap.size + 1, 0, none⟩ 1 1 [.string x.text] rfl rfl (cell_two_new wr _ _ _) (by simp [Value.oneCell']) (by unfold maxLen; omega) (by omega) (by simp; omega) ?_); intro v5 w5 own5 grow5 loc5; have HR5 : Hid (TxOwn w5 w.heap.size v5 (pcsL (l.take (k + 1))) ∧ Below w.heap.size w w5) := hide ⟨(by rw [HT.out, HS.out]; exact TxOwn.app own5), below_append (HR.out.2.alloc hB _) (World.ownsRow.alloc HR.out.1 _) (by simp; omega) grow5⟩; clear own5 grow5 loc5 HR)
        exact ⟨⟨k + 1, by omega, by go_num, v5, rfl, HR5⟩, by simp [intOf]; omega⟩
      · have e0 : decide (x.left < 0) = false := decide_eq_false h0
        have HS : Hid (pcsL [x] = []) := hide (by unfold pcsL; rw [List.filter_cons, if_neg (by simpa using h0)]; rfl)
        have HR5 : Hid (∀ o, TxOwn (wr.alloc o) w.heap.size v (pcsL (l.take (k + 1))) ∧ Below w.heap.size w (wr.alloc o)) := hide (fun o => ⟨by rw [HT.out, HS.out, List.append_nil]; exact World.ownsRow.alloc HR.out.1 _, HR.out.2.alloc hB _⟩)
        clear HR
        go_wp2
        exact ⟨⟨k + 1, by omega, by go_num, v, rfl, hide (HR5.out _)⟩, by simp [intOf]; omega⟩
    · have HE : Hid (TxOwn wr w.heap.size v (pcsL l) ∧ Below w.heap.size w wr) := hide (by
        have := HR.out
        rw [List.take_of_length_le (by omega)] at this
        exact this)
      clear HR
      go_wp2
      go_ret
      exact ⟨v, rfl, HE.out.1, HE.out.2⟩

def lastZ (l : List Bg) : Int := (l.getLast?.map (·.size)).getD 0

theorem lastZ_bo (o : Option Lm) : lastZ (bo o) = (szO o : Int) := by
  cases o with
  | none => rfl
  | some t =>
    obtain ⟨i, e, -⟩ := Lm.pd_root t 0
    show lastZ (t.pd 0) = _
    unfold lastZ
    rw [e, List.getLast?_concat]
    exact (Lm.rb_is t 0).1

end Go.Proofs.YtpdngncioblibacDoor
