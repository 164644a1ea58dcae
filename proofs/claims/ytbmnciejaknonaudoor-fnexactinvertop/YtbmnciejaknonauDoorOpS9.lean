/- The contracts of the model's own l3Invert and InvertOp. -/
import Derived.Test.YtbmnciejaknonauDoorOpS8
namespace Go.Proofs.YtbmnciejaknonauDoor
open Go.RowKit
open Doc1

/-- A part the other way. -/
def invP (p : Pt) : Pt := ⟨p.keep, p.drop, p.put⟩
theorem invP_pk {p : Pt} (h : pk p ≠ 0) : pk (invP p) ≠ 0 := by
  unfold pk at h ⊢
  unfold invP
  simp only
  split at h
  · rename_i hh; rw [if_pos ⟨hh.2.1, hh.1, hh.2.2⟩]; decide
  · split at h
    · rename_i hh
      split
      · decide
      · split
        · decide
        · first | decide | (split <;> simp_all)
    · split at h
      · rename_i hh
        split
        · decide
        · first | decide | (split <;> first | decide | simp_all)
      · exact absurd rfl h
theorem inv_pk {l : List Pt} (h : ∀ p ∈ l, pk p ≠ 0) : ∀ p ∈ l.map invP, pk p ≠ 0 := by
  intro p hp
  obtain ⟨q, hq, rfl⟩ := List.mem_map.1 hp
  exact invP_pk (h q hq)
theorem inv_take {l : List Pt} {k : Nat} (hk : k < l.length) : normL ((l.map invP).take (k + 1)) = addP (normL ((l.map invP).take k)) (invP l[k]) := by
  rw [norm_take (by simpa using hk)]
  simp

set_option maxRecDepth 100000 in
set_option maxHeartbeats 2000000 in
theorem l3Invert_any {w : World} {g cap : Nat} {l : List Pt} (h : Pin w g cap l) (h60 : l.length ≤ 60) (hgp : ∀ p ∈ l, pk p ≠ 0) :
    Calls Tryd.prog 55 #[.slice (some ⟨g, 0, none⟩) l.length cap] w fun e w' => ∃ v, e = .returned v ∧ POwn w' w.heap.size v (normL (l.map invP)) ∧ Below w.heap.size w w' := by
  have hcp := h.cap
  have H := hide h
  have HG := hide hgp
  have HB := hide (norm_bd (l.map invP) (inv_pk hgp))
  clear h hgp
  go_enter Tryd.func55, Tryd.ntmps55
  go_wp2
  go_loopw [3, 8] (fun o i wr => ∃ k : Nat, k ≤ l.length ∧ i = .int .i64 k ∧ POwn wr w.heap.size o (normL ((l.map invP).take k)) ∧ Below w.heap.size w wr) (fun _ i _ => l.length - (intOf i).toNat)
  case atStart => exact ⟨0, by omega, rfl, World.ownsRow_nil _ _ _ _, Below.refl _ _⟩
  case round =>
    obtain ⟨k, hk, rfl, hown, hbel⟩ := hrel
    by_cases hlt : k < l.length
    · obtain ⟨c0, c1, c2⟩ := (H.out.later hbel).at'.ptat k hlt
      have hb := HB.out k (by simpa using hk)
      have hpk := invP_pk (HG.out l[k] (List.getElem_mem hlt))
      have ha := hbel.alloc hbel.size (.cells #[.int .i64 l[k].keep, .string l[k].put, .string l[k].drop] 67)
      have P := hide (l3Add_any (w := wr.alloc (.cells #[.int .i64 l[k].keep, .string l[k].put, .string l[k].drop] 67)) (invP l[k]) (World.ownsRow.alloc hown _) ha.size (by omega) (fun q hq => (hb.2 q hq).mono (by omega)) hpk)
      have hN := hide (inv_take hlt)
      clear hb hpk
      obtain ⟨a0, cap0, rfl, -, -⟩ := own_shp hown
      go_wp2_with fail
      refine P.out.mono ?_
      rintro e w2 ⟨v', rfl, ho2, hb2⟩
      go_wp2
      refine ⟨⟨k + 1, by omega, by go_num, by rw [hN.out]; exact ho2, ha.trans hb2⟩, by simp [intOf]; omega⟩
    · obtain rfl : k = l.length := by omega
      rw [← List.length_map (f := invP), List.take_length] at hown
      go_wp2
      go_ret
      exact ⟨_, rfl, hown, hbel⟩

/-- What InvertOp answers. -/
def invO (l : List Pt) : List Pt := if goodO l then normL (l.map invP) else []

set_option maxRecDepth 100000 in
set_option maxHeartbeats 2000000 in
theorem invertS {w : World} {g cap : Nat} {l : List Pt} (h : Pin w g cap l) :
    Calls Tryd.prog 29 #[.slice (some ⟨g, 0, none⟩) l.length cap] w fun e w' => ∃ v, e = .returned (.tuple #[v, .bool (goodO l)]) ∧ POwn w' w.heap.size v (invO l) ∧ Below w.heap.size w w' := by
  have G := goodOpS h
  unfold invO
  cases hg : goodO l with
  | false =>
    rw [hg] at G
    have HG := hide G
    clear h G
    simp only [Bool.false_eq_true, if_false]
    go_enter Tryd.func29, Tryd.ntmps29
    go_wp2_with fail
    refine HG.out.mono ?_
    rintro e w1 ⟨rfl, hb⟩
    go_wp2
    go_ret2
    exact ⟨_, rfl, World.ownsRow_nil _ _ _ _, hb⟩
  | true =>
    rw [hg] at G
    have HG := hide G
    obtain ⟨h60, hpk, -, -⟩ := goodO_parts hg
    have S := hide (fun w1 (hb : Below w.heap.size w w1) => l3Invert_any (h.later hb) h60 hpk)
    clear h G
    simp only [if_true]
    go_enter Tryd.func29, Tryd.ntmps29
    go_wp2_with fail
    refine HG.out.mono ?_
    rintro e w1 ⟨rfl, hb⟩
    go_wp2_with fail
    refine (S.out w1 hb).mono ?_
    rintro e w2 ⟨v, rfl, ho, hb2⟩
    go_wp2
    go_ret2
    exact ⟨_, rfl, ho.mono hb.size, hb.trans (hb2.mono hb.size)⟩
end Go.Proofs.YtbmnciejaknonauDoor
