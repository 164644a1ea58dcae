/- The contract of the model's own l3Normal. -/
import Derived.Test.YtbmnciejaknonauDoorOpS6
namespace Go.Proofs.YtbmnciejaknonauDoor
open Go.RowKit
open Doc1

theorem norm_take {l : List Pt} {k : Nat} (hk : k < l.length) : normL (l.take (k + 1)) = addP (normL (l.take k)) l[k] := by
  unfold normL
  rw [List.take_succ_eq_append_getElem hk, List.foldl_append]
  rfl
theorem norm_bd (l : List Pt) (h : ∀ p ∈ l, pk p ≠ 0) : ∀ k, k ≤ l.length → (normL (l.take k)).length ≤ k ∧ ∀ q ∈ normL (l.take k), Bd (300 * k) q
  | 0, _ => by simp [normL]
  | k + 1, hk => by
    have ih := norm_bd l h k (by omega)
    rw [norm_take (by omega)]
    have a1 := addP_len (normL (l.take k)) l[k]
    refine ⟨by omega, ?_⟩
    rw [show 300 * (k + 1) = 300 * k + 300 by omega]
    exact addP_Bd ih.2 (pk_Bd (h _ (List.getElem_mem _)))

set_option maxRecDepth 100000 in
set_option maxHeartbeats 2000000 in
theorem l3Normal_any {w : World} {g cap : Nat} {l : List Pt} (h : Pin w g cap l) (h60 : l.length ≤ 60) (hgp : ∀ p ∈ l, pk p ≠ 0) :
    Calls Tryd.prog 48 #[.slice (some ⟨g, 0, none⟩) l.length cap] w fun e w' => ∃ v, e = .returned v ∧ POwn w' w.heap.size v (normL l) ∧ Below w.heap.size w w' := by
  have hcp := h.cap
  have H := hide h
  have HG := hide hgp
  have HB := hide (norm_bd l hgp)
  clear h hgp
  go_enter Tryd.func48, Tryd.ntmps48
  go_wp2
  go_loopw [3, 8] (fun o i wr => ∃ k : Nat, k ≤ l.length ∧ i = .int .i64 k ∧ POwn wr w.heap.size o (normL (l.take k)) ∧ Below w.heap.size w wr) (fun _ i _ => l.length - (intOf i).toNat)
  case atStart => exact ⟨0, by omega, rfl, World.ownsRow_nil _ _ _ _, Below.refl _ _⟩
  case round =>
    obtain ⟨k, hk, rfl, hown, hbel⟩ := hrel
    by_cases hlt : k < l.length
    · obtain ⟨c0, c1, c2⟩ := (H.out.later hbel).at'.ptat k hlt
      have hb := HB.out k hk
      have hpk := HG.out l[k] (List.getElem_mem hlt)
      have ha := hbel.alloc hbel.size (.cells #[.int .i64 l[k].keep, .string l[k].put, .string l[k].drop] 67)
      have P := hide (l3Add_any (w := wr.alloc (.cells #[.int .i64 l[k].keep, .string l[k].put, .string l[k].drop] 67)) l[k] (World.ownsRow.alloc hown _) ha.size (by omega) (fun q hq => (hb.2 q hq).mono (by omega)) hpk)
      have hN := hide (norm_take hlt)
      clear hb hpk
      obtain ⟨a0, cap0, rfl, -, -⟩ := own_shp hown
      go_wp2_with fail
      refine P.out.mono ?_
      rintro e w2 ⟨v', rfl, ho2, hb2⟩
      go_wp2
      refine ⟨⟨k + 1, by omega, by go_num, by rw [hN.out]; exact ho2, ha.trans hb2⟩, by simp [intOf]; omega⟩
    · obtain rfl : k = l.length := by omega
      rw [List.take_length] at hown
      go_wp2
      go_ret
      exact ⟨_, rfl, hown, hbel⟩
end Go.Proofs.YtbmnciejaknonauDoor
