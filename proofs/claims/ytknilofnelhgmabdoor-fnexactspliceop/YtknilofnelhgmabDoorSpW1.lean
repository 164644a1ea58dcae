/- The contracts of impl.isNothing and of slices.IndexFunc over parts. -/
import Derived.Test.YtknilofnelhgmabDoorSpS3
import Derived.Test.YtknilofnelhgmabDoorOpW7
namespace Go.Proofs.YtknilofnelhgmabDoor
open Go.RowKit
open Doc1

set_option maxRecDepth 100000 in
set_option maxHeartbeats 2000000 in
theorem isNothing_any (p : Pt) (w : World) : Calls Tryd.prog 40 #[.agg #[.int .i64 p.keep, .string p.put, .string p.drop]] w fun e w' => e = .returned (.bool (decide (nth p))) ∧ Below w.heap.size w w' := by
  have e0 : p.put.toList = p.put.data.toList := ByteArray.toList_eq _
  have e1 : p.drop.toList = p.drop.data.toList := ByteArray.toList_eq _
  obtain ⟨y0, y1, y2⟩ := cells3_new' w (.int .i64 p.keep) (.string p.put) (.string p.drop)
  go_enter Tryd.func40, Tryd.ntmps40
  go_wp2
  all_goals
    go_ret
    refine ⟨?_, (Below.refl _ _).alloc (Nat.le_refl _) _⟩
    simp_all [nth]

set_option maxRecDepth 100000 in
set_option maxHeartbeats 2000000 in
theorem indexFunc_any {w : World} {g cap : Nat} {l : List Pt} (h : Pin w (some ⟨g, 0, none⟩) g cap l) :
    Calls Tryd.prog 55 #[.slice (some ⟨g, 0, none⟩) l.length cap, .func (.func 40) #[] #[]] w fun e w' => Below w.heap.size w w' ∧
      ((e = .returned (.int .i64 (-1)) ∧ ∀ p ∈ l, ¬ nth p) ∨ ∃ k : Nat, ∃ hk : k < l.length, e = .returned (.int .i64 (k : Int)) ∧ (∀ p ∈ l.take k, ¬ nth p) ∧ nth l[k]) := by
  have hcp := h.cap
  have hln := h.len
  have H := hide h
  clear h
  go_enter Tryd.func55, Tryd.ntmps55
  go_wp2
  go_loopw [8] (fun i wr => ∃ k : Nat, k ≤ l.length ∧ i = .int .i64 k ∧ Hid (∀ p ∈ l.take k, ¬ nth p) ∧ Below w.heap.size w wr) (fun i _ => l.length - (intOf i).toNat)
  case atStart => exact ⟨0, by omega, rfl, hide (by simp), Below.refl _ _⟩
  case round =>
    obtain ⟨k, hk, rfl, hno, hbel⟩ := hrel
    by_cases hlt : k < l.length
    · obtain ⟨c0, c1, c2⟩ := (H.out.later hbel).at'.ptat k hlt
      have N := hide (isNothing_any l[k] wr)
      by_cases hn : nth l[k]
      · rw [decide_eq_true hn] at N
        have HN := hide hn
        clear hn
        go_wp2_with (go_at_call 40; refine N.out.mono ?_; rintro e w2 ⟨rfl, hb2⟩)
        go_ret
        exact ⟨hbel.trans (hb2.mono hbel.size), .inr ⟨k, hlt, rfl, hno.out, HN.out⟩⟩
      · rw [decide_eq_false hn] at N
        have HY : Hid (∀ p ∈ l.take (k + 1), ¬ nth p) := hide (by
          rw [List.take_succ_eq_append_getElem hlt]
          intro p hp
          rcases List.mem_append.1 hp with c | c
          · exact hno.out p c
          · simp at c; subst c; exact hn)
        clear hn
        go_wp2_with (go_at_call 40; refine N.out.mono ?_; rintro e w2 ⟨rfl, hb2⟩)
        refine ⟨⟨k + 1, by omega, by go_num, HY, hbel.trans (hb2.mono hbel.size)⟩, by simp [intOf]; omega⟩
    · obtain rfl : k = l.length := by omega
      have hall := hno.out
      rw [List.take_length] at hall
      have HA := hide hall
      clear hall
      go_wp2
      go_ret
      exact ⟨hbel, .inl ⟨rfl, HA.out⟩⟩
end Go.Proofs.YtknilofnelhgmabDoor
