/- The program's rows of pieces: joined in a row, joined evenly. -/
import Derived.Test.YtgacajnljplmiabDoorRop4
import Derived.Deep.RegionHeld3
set_option linter.unusedVariables false
namespace Go.Proofs.YtgacajnljplmiabDoor
open Go.RowKit
open Doc1

/-- Texts in a row of cells, from a place on. -/
def StAt (w : World) (g off : Nat) (l : List ByteArray) : Prop := ∀ i (h : i < l.length), w.cell? ⟨g, off + i, none⟩ = some (.string l[i])
theorem StAt.later {w w1 : World} {B g off : Nat} {l : List ByteArray} (h : StAt w g off l) (hb : Below B w w1) (hg : g < B) : StAt w1 g off l := fun i hi => (World.cell?_of_block (hb.block g hg)).trans (h i hi)
theorem StAt.take {w : World} {g off : Nat} {l : List ByteArray} (h : StAt w g off l) (n : Nat) : StAt w g off (l.take n) := fun i hi => by
  rw [List.length_take] at hi
  rw [h i (by omega), List.getElem_take]
theorem StAt.drop {w : World} {g off : Nat} {l : List ByteArray} (h : StAt w g off l) (n : Nat) : StAt w g (off + n) (l.drop n) := fun i hi => by
  rw [List.length_drop] at hi
  rw [Nat.add_assoc, h (n + i) (by omega), List.getElem_drop]
def tot (l : List ByteArray) : Nat := (l.map ByteArray.size).sum
theorem tot_app (a b : List ByteArray) : tot (a ++ b) = tot a + tot b := by simp [tot]
theorem tot_take_drop (l : List ByteArray) (n : Nat) : tot (l.take n) + tot (l.drop n) = tot l := by rw [← tot_app, List.take_append_drop]
theorem tot_at {l : List ByteArray} {k : Nat} (h : k < l.length) : l[k].size ≤ tot l := by
  have := tot_take_drop l k
  rw [List.drop_eq_getElem_cons h] at this
  have e : tot (l[k] :: l.drop (k + 1)) = l[k].size + tot (l.drop (k + 1)) := by unfold tot; rw [List.map_cons, List.sum_cons]
  omega
theorem szO_evn (l : List ByteArray) : szO (evn l) = tot l := by rw [szO_pc, evn_pc _ l rfl]; rfl
theorem szO_row (l : List ByteArray) : szO (inRow l) = tot l := by rw [szO_pc, inRow_pc]; rfl
theorem nbO_evn (l : List ByteArray) : nbO (evn l) = 2 * l.length - 1 := by rw [nbO_pc, evn_pc _ l rfl]
theorem nbO_row (l : List ByteArray) : nbO (inRow l) = 2 * l.length - 1 := by rw [nbO_pc, inRow_pc]

theorem cut_low (g off n cap k : Nat) (h : k ≤ cap) (w : World) : (Instr.slice 123 (.slice (some ⟨g, off, none⟩) n cap) none (some (.int .i64 (k : Int))) none).run Tryd.prog w = .ok (.slice (some ⟨g, off, none⟩) k cap) w := by
  simp [go_sem, Tryd.underlying123, h]
theorem cut_high (g off n cap k : Nat) (h : k ≤ n) (h2 : k < cap) (w : World) : (Instr.slice 123 (.slice (some ⟨g, off, none⟩) n cap) (some (.int .i64 (k : Int))) none none).run Tryd.prog w = .ok (.slice (some ⟨g, off + k, none⟩) (n - k) (cap - k)) w := by
  have : ¬ cap = k := by omega
  simp [go_sem, Tryd.underlying123, h, this]

set_option maxRecDepth 100000 in
set_option maxHeartbeats 4000000 in
theorem joinEvenly_none (a : Option Addr) (cap : Nat) (w : World) :
    Calls Tryd.prog 93 #[.slice a 0 cap] w fun e w' => e = .returned .nilIface ∧ Below w.heap.size w w' := by
  go_enter Tryd.func93, Tryd.ntmps93
  go_wp2
  go_ret
  exact ⟨rfl, Below.refl _ _⟩

set_option maxRecDepth 100000 in
set_option maxHeartbeats 4000000 in
theorem joinEvenly_some (n : Nat) : ∀ (l : List ByteArray) (g off cap : Nat) (w : World), l.length = n → 0 < n → StAt w g off l → g < w.heap.size → l.length ≤ cap → cap ≤ maxLen → l.length ≤ 100000 → tot l ≤ 1000000 →
    Calls Tryd.prog 93 #[.slice (some ⟨g, off, none⟩) l.length cap] w fun e w' => e = .returned (lvO (evn l)) ∧ Below w.heap.size w w' := by
  induction n using Nat.strongRecOn with
  | ind n ih =>
    intro l g off cap w hn h0 hs hg hc hm hl ht
    by_cases h1 : l.length = 1
    · have c0 := hs 0 (by omega)
      rw [Nat.add_zero] at c0
      have e : evn l = some (.pc l[0]) := by
        rw [evn, dif_neg (by omega), dif_pos h1, List.getD_eq_getElem?_getD, List.getElem?_eq_getElem (by omega)]
        rfl
      rw [e, show lvO (some (.pc l[0])) = .iface 146 (.string l[0]) from rfl]
      obtain ⟨s0, hs0⟩ : ∃ s0, l[0] = s0 := ⟨_, rfl⟩
      rw [hs0] at c0 ⊢
      rw [h1]
      clear ih e hs0
      go_enter Tryd.func93, Tryd.ntmps93
      go_wp2
      go_ret
      exact ⟨rfl, Below.refl _ _⟩
    · obtain ⟨k, hk⟩ : ∃ k, k = (l.length + 1) / 2 := ⟨_, rfl⟩
      have e : evn l = jo (evn (l.take k)) (evn (l.drop k)) := by
        rw [evn, dif_neg (by omega), dif_neg h1, ← hk]
      rw [e]
      have hk1 : 0 < k := by omega
      have hk2 : k < l.length := by omega
      have l1 : (l.take k).length = k := by rw [List.length_take]; omega
      have l2 : (l.drop k).length = l.length - k := List.length_drop
      have ht2 := tot_take_drop l k
      have A1 := hide (fun w' (hb : Below w.heap.size w w') => ih k (by omega) (l.take k) g off cap w' l1 (by omega) ((hs.take k).later hb hg) (Nat.lt_of_lt_of_le hg hb.size) (by omega) hm (by omega) (by omega))
      have A2 := hide (fun w' (hb : Below w.heap.size w w') => ih (l.length - k) (by omega) (l.drop k) g (off + k) (cap - k) w' l2 (by omega) ((hs.drop k).later hb hg) (Nat.lt_of_lt_of_le hg hb.size) (by omega) (by omega) (by omega) (by omega))
      rw [l1] at A1
      rw [l2] at A2
      have z1 := szO_evn (l.take k)
      have z2 := szO_evn (l.drop k)
      obtain ⟨oa, hoa⟩ : ∃ oa, evn (l.take k) = oa := ⟨_, rfl⟩
      obtain ⟨ob, hob⟩ : ∃ ob, evn (l.drop k) = ob := ⟨_, rfl⟩
      rw [hoa] at A1 z1 ⊢
      rw [hob] at A2 z2 ⊢
      have JL := hide (fun w' => joinLimbs_any oa ob w' (by omega) (by omega))
      obtain ⟨va, hva⟩ : ∃ va, lvO oa = va := ⟨_, rfl⟩
      obtain ⟨vb, hvb⟩ : ∃ vb, lvO ob = vb := ⟨_, rfl⟩
      obtain ⟨vr, hvr⟩ : ∃ vr, lvO (jo oa ob) = vr := ⟨_, rfl⟩
      rw [hva] at A1 JL
      rw [hvb] at A2 JL
      rw [hvr] at JL ⊢
      have hq1 : IntKind.i64.wrap ((l.length : Int) + 1) = (l.length : Int) + 1 := by rw [IntKind.wrap_i64]; omega
      have hq2 : IntKind.i64.wrap (((l.length : Int) + 1) / 2) = (k : Int) := by rw [IntKind.wrap_i64]; omega
      have hq3 : Int.tdiv ((l.length : Int) + 1) 2 = (k : Int) := by rw [Int.tdiv_eq_ediv_of_nonneg (by omega)]; omega
      have hcap : ¬ cap = k := by omega
      have hb0 : (0 : Int) ≤ (k : Int) := by omega
      have hb1 : (k : Int) ≤ (cap : Int) := by omega
      have hb2 : (k : Int) ≤ (l.length : Int) := by omega
      have hb3 : (l.length : Int) ≤ (cap : Int) := by omega
      clear ih e hs hoa hob hva hvb hvr l1 l2 z1 z2 ht2 hn h0 ht
      have hcl := cut_low g off l.length cap k (by omega)
      have hch := cut_high g off l.length cap k (by omega) (by omega)
      go_enter Tryd.func93, Tryd.ntmps93
      go_wp2
      rw [show ((l.length : Int) + 1) / 2 = (k : Int) by omega]
      have hbz : (0 : Int) ≤ (k : Int) ∧ (k : Int) ≤ (cap : Int) ∧ k < cap ∧ k ≤ l.length := by omega
      clear hq1 hq2 hq3 hb0 hb1 hb2 hb3 hcap hk hk1 hk2 h1 hc hm hl
      obtain ⟨hb0, hb1, hb2, hb3⟩ := hbz
      go_region_held3 (fun w' => True) (trivial)
        (first
          | (go_at_call 98; refine (JL.out _).mono ?_; rintro e wc ⟨rfl, hbc⟩; have hbx3 : Below w.heap.size w wc := hbx2.trans (hbc.mono hbx2.size))
          | (go_at_call 93; refine (A2.out _ hbx1).mono ?_; rintro e wb ⟨rfl, hbb⟩; have hbx2 : Below w.heap.size w wb := hbx1.trans (hbb.mono hbx1.size))
          | (go_at_call 93; refine (A1.out _ (Below.refl _ _).drew).mono ?_; rintro e wa ⟨rfl, hba⟩; have hbx1 : Below w.heap.size w wa := (Below.refl _ _).drew.trans hba))
      go_wp2
      go_ret
      exact ⟨rfl, hbx3⟩
set_option maxRecDepth 100000 in
set_option maxHeartbeats 4000000 in
theorem joinInRow_any (l : List ByteArray) (a : Option Addr) (cap : Nat) (w : World) (hs : ∀ i (h : i < l.length), ∃ g, a = some ⟨g, 0, none⟩ ∧ g < w.heap.size ∧ w.cell? ⟨g, i, none⟩ = some (.string l[i])) (hl : l.length ≤ 100000) (hc : l.length ≤ cap ∧ cap ≤ maxLen) (ht : tot l ≤ 100000) :
    Calls Tryd.prog 88 #[.slice a l.length cap] w fun e w' => e = .returned (lvO (inRow l)) ∧ Below w.heap.size w w' := by
  have JL := hide joinLimbs_any
  have HS := hide hs
  have HT := hide ht
  clear hs ht
  go_enter Tryd.func88, Tryd.ntmps88
  go_wp2
  go_loopw [3, 8] (fun v vi wr => ∃ (k : Nat), k ≤ l.length ∧ vi = .int .i64 (k : Int) ∧ ∃ o, v = lvO o ∧ Hid (o = inRow (l.take k)) ∧ Hid (Below w.heap.size w wr)) (fun _ vi _ => l.length - (intOf vi).toNat)
  case atStart => exact ⟨0, by omega, rfl, none, rfl, hide rfl, hide (Below.refl _ _)⟩
  case round =>
    obtain ⟨k, hk, rfl, o, rfl, HO, HB⟩ := hrel
    by_cases hlt : k < l.length
    · obtain ⟨g, rfl, hg, c⟩ := HS.out k hlt
      have c1 : wr.cell? ⟨g, k, none⟩ = some (.string l[k]) := (World.cell?_of_block (HB.out.block g hg)).trans c
      have h1 : szO o ≤ 1000000 := by
        have := HT.out; have := tot_take_drop l k
        rw [HO.out, szO_row]; omega
      have h2 : szO (some (.pc l[k])) ≤ 1000000 := by
        have := HT.out; have := tot_at hlt
        show l[k].size ≤ _
        omega
      have J := hide (JL.out o (some (.pc l[k])) wr h1 h2)
      rw [show lvO (some (.pc l[k])) = .iface 146 (.string l[k]) from rfl] at J
      have HN : Hid (jo o (some (.pc l[k])) = inRow (l.take (k + 1))) := hide (by rw [List.take_succ_eq_append_getElem hlt, inRow_snoc, HO.out])
      obtain ⟨va, hva⟩ : ∃ va, lvO o = va := ⟨_, rfl⟩
      rw [hva] at J ⊢
      clear c h1 h2 hva
      go_wp2_with fail
      refine J.out.mono ?_
      rintro e w2 ⟨rfl, hb2⟩
      have HB2 := hide (HB.out.trans (hb2.mono HB.out.size))
      clear hb2 J
      go_wp2
      exact ⟨⟨k + 1, by omega, by go_num, _, rfl, HN, HB2⟩, by simp [intOf]; omega⟩
    · have HE : Hid (inRow l = o) := hide (by rw [HO.out, List.take_of_length_le (by omega)])
      go_wp2
      go_ret
      exact ⟨by rw [HE.out] <;> rfl, HB.out⟩
end Go.Proofs.YtgacajnljplmiabDoor
