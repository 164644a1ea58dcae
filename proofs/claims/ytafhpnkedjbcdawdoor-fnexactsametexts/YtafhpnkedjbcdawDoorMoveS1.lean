/- The contracts of the model's l4Bytes and l5Kept. -/
import Derived.Test.YtafhpnkedjbcdawDoorOpSM
import Derived.Test.YtafhpnkedjbcdawDoorAppZ
import Derived.Test.YtafhpnkedjbcdawDoorMove2
import Derived.Test.YtafhpnkedjbcdawDoorWalks6
import Derived.Test.YtafhpnkedjbcdawDoorOwnG
import Derived.Test.YtafhpnkedjbcdawDoorCells
namespace Go.Proofs.YtafhpnkedjbcdawDoor
open Go.RowKit
open Doc1

theorem Tryd.info5m : (Tryd.prog.info? 5).map (fun i => (i.zero, i.size, i.bytes)) = some (some (.int .u8 0), 1, 1) := by kernel_rfl
theorem new3_2 (w : World) (a b c : Value) (t : TypeId) : (w.alloc (.cells #[a, b, c] t)).cell? ⟨w.heap.size, 2, none⟩ = some c := by
  unfold World.cell?
  rw [heap_alloc_new]
  rfl
theorem zs_byt (n : Nat) : Go.Lib.strCells (zs n) = byt (List.replicate n 0) := by simp [Go.Lib.strCells, byt, zs_list]
theorem str_byt (s : ByteArray) : Go.Lib.strCells s = byt s.data.toList := by simp [Go.Lib.strCells, byt]
theorem byt_cat (a b : List UInt8) : byt (a ++ b) = byt a ++ byt b := by simp [byt]
theorem own_len {w : World} {B n n' : Nat} {v : Value} {xs ys : List Value} (h : w.ownsRow B 5 1 v n xs) (hn : n = n') (hx : xs = ys) : w.ownsRow B 5 1 v n' ys := by subst hn; subst hx; exact h

theorem below_owned {B : Nat} {w w1 w2 : World} {e : TypeId} {size n : Nat} {v : Value} {xs : List Value} (hb : Below B w w1) (hown : w1.ownsRow B e size v n xs) (hB : B ≤ w1.heap.size) (hg : w1.grownBy w2 v.ownBlock) : Below B w w2 := by
  refine hb.grown hg hB ?_
  intro k hk
  rcases hown.2 with ⟨hv, _⟩ | ⟨g, cap, cur, hv, hg', _⟩
  · subst hv; simp [Value.ownBlock] at hk
  · subst hv; simp [Value.ownBlock] at hk; omega
theorem cell_kept {w w2 : World} {B n sz : Nat} {e : TypeId} {v : Value} {xs : List Value} (_hown : w.ownsRow B e sz v n xs) (hg : w.grownBy w2 v.ownBlock) {b : Nat} (hb : b < w.heap.size) (hne : v.ownBlock ≠ some b) (j : Nat) : w2.cell? ⟨b, j, none⟩ = w.cell? ⟨b, j, none⟩ :=
  World.cell?_of_block (hg.block b hb (fun e => hne e.symm))

set_option maxRecDepth 100000 in
set_option maxHeartbeats 2000000 in
theorem l4Bytes_any {w : World} {g cap : Nat} {l : List Pt} (h : Pin w g cap l) (h60 : l.length ≤ 60) (hgp : ∀ p ∈ l, pk p ≠ 0) :
    Calls Tryd.prog 44 #[.slice (some ⟨g, 0, none⟩) l.length cap] w fun e w' => ∃ v, e = .returned v ∧ w'.ownsRow w.heap.size 5 1 v (byL l).length (byt (byL l)) ∧ Below w.heap.size w w' := by
  obtain ⟨i0, hi0, hz0, hz1, hz2⟩ := info_parts Tryd.info5m
  have hcp := h.cap
  have H := hide h
  have HG := hide hgp
  clear h hgp
  go_enter Tryd.func44, Tryd.ntmps44
  go_wp2
  go_loopw [3, 8] (fun o i wr => ∃ k : Nat, k ≤ l.length ∧ i = .int .i64 k ∧ wr.ownsRow w.heap.size 5 1 o (byL (l.take k)).length (byt (byL (l.take k))) ∧ Below w.heap.size w wr) (fun _ i _ => l.length - (intOf i).toNat)
  case atStart => exact ⟨0, by omega, rfl, World.ownsRow_nil _ _ _ _, Below.refl _ _⟩
  case round =>
    obtain ⟨k, hk, rfl, hown, hbel⟩ := hrel
    by_cases hlt : k < l.length
    · obtain ⟨c0, c1, c2⟩ := (H.out.later hbel).at'.ptat k hlt
      have b1 := (all_bd (l.take k) (fun p hp => HG.out p (List.mem_of_mem_take hp))).1
      rw [← byL_len (l.take k) (fun p hp => HG.out p (List.mem_of_mem_take hp))] at b1
      have hl1 : (l.take k).length ≤ 60 := by rw [List.length_take]; omega
      have b2 := (pk_bd (HG.out l[k] (List.getElem_mem hlt))).1
      have kn := keep_nn (HG.out l[k] (List.getElem_mem hlt))
      obtain ⟨m, hm⟩ : ∃ m : Nat, l[k].keep = (m : Int) := ⟨l[k].keep.toNat, by omega⟩
      unfold tk1 at b2
      have hN : Hid (byL (l.take (k + 1)) = byL (l.take k) ++ (List.replicate m 0 ++ l[k].drop.data.toList)) := hide (by
        rw [List.take_succ_eq_append_getElem hlt, byL_snoc, hm, Int.toNat_natCast])
      rw [hm] at c0 b2
      clear hm kn
      have ha := hbel.alloc hbel.size (.cells #[.int .i64 (m : Int), .string l[k].put, .string l[k].drop] 47)
      have o2 := hown.alloc (.cells #[.int .i64 (m : Int), .string l[k].put, .string l[k].drop] 47)
      have hbig : (byL (l.take k)).length ≤ 18000 := by omega
      obtain ⟨a0, cap0, rfl, -, -⟩ := own_shp o2
      have hne : (Value.slice a0 (byL (l.take k)).length cap0).ownBlock ≠ some wr.heap.size := fun e => by have := hown.lt _ e; omega
      clear hown
      go_wp2_with (at_builtin; refine wpList_zeros _ rfl _ _ 84 3 9 rfl w.heap.size 5 i0 Tryd.underlying84 Tryd.underlying3 Tryd.underlying9 hi0 hz0 hz1 hz2 _ _ _ rfl o2 m rfl (by omega) (by omega) ha.size ?_)
      intro v2 w2 own2 hg2
      have hb2 := below_owned ha o2 ha.size hg2
      have d2 : w2.cell? ⟨wr.heap.size, 2, none⟩ = some (.string l[k].drop) := (cell_kept o2 hg2 (by simp) hne 2).trans (new3_2 _ _ _ _ _)
      rw [zs_byt] at own2
      clear hg2 o2 ha
      obtain ⟨a2, cap2, rfl, -, -⟩ := own_shp own2
      go_wp2_with (at_builtin; refine Go.Lib.wpList_append_own_string _ rfl _ _ 84 9 rfl w.heap.size 5 i0 Tryd.underlying84 Tryd.underlying9 hi0 hz0 hz1 hz2 _ _ _ rfl own2 l[k].drop rfl (by unfold maxLen; omega) (by omega) hb2.size ?_)
      intro v3 w3 own3 hg3 _
      have hb3 := below_owned hb2 own2 hb2.size hg3
      rw [str_byt, ← byt_cat, ← byt_cat, ← hN.out] at own3
      have eN : (byL (l.take k)).length + m + l[k].drop.size = (byL (l.take (k + 1))).length := by
        rw [hN.out, List.length_append, List.length_append, List.length_replicate, sz_list]; omega
      rw [eN] at own3
      clear hg3 own2 hb2 eN
      go_wp2
      refine ⟨⟨k + 1, by omega, by go_num, own3, hb3⟩, by simp [intOf]; omega⟩
    · obtain rfl : k = l.length := by omega
      rw [List.take_length] at hown
      go_wp2
      go_ret
      exact ⟨_, rfl, hown, hbel⟩

set_option maxRecDepth 100000 in
set_option maxHeartbeats 2000000 in
theorem l5Kept_any {w : World} {g cap : Nat} {l : List Pt} (i n : Nat) (h : Pin w g cap l) (h60 : l.length ≤ 60) (hgp : ∀ p ∈ l, pk p ≠ 0) (hin : i ≤ n) (hn : n ≤ (byL l).length) :
    Calls Tryd.prog 49 #[.slice (some ⟨g, 0, none⟩) l.length cap, .int .i64 i, .int .i64 n] w fun e w' => e = .returned (.bool (kptL (byL l) i n)) ∧ Below w.heap.size w w' := by
  have B := hide (l4Bytes_any h h60 hgp)
  have hbd := (all_bd l hgp).1
  rw [← byL_len l hgp] at hbd
  clear h hgp
  go_enter Tryd.func49, Tryd.ntmps49
  go_wp2_with fail
  refine B.out.mono ?_
  rintro e w1 ⟨v, rfl, own, hb1⟩
  clear B
  have HO := hide own
  obtain ⟨a0, cap0, rfl, hc1, hc2⟩ := own_shp own
  clear own
  go_wp2
  go_loop [8] (fun x => ∃ j : Nat, i ≤ j ∧ j ≤ n ∧ x = .int .i64 j ∧ kptL (byL l) i n = kptL (byL l) j n) (fun x => n - (intOf x).toNat)
  case atStart => exact ⟨i, by omega, hin, rfl, rfl⟩
  case round =>
    obtain ⟨j, hj1, hj2, rfl, hj⟩ := hrel
    by_cases hlt : j < n
    · obtain ⟨gb, cb, ev, -, -, -, hgb, hcl, -⟩ := own_cat HO.out (by omega)
      cases ev
      have hjl : j < (byL l).length := by omega
      have hc := hcl j (.int .u8 ((byL l)[j].toNat : Int)) (by simp [byt, hjl])
      rw [kptL_step hlt hn] at hj
      clear hcl
      by_cases h0 : (byL l)[j] = 0
      · rw [decide_eq_true h0, Bool.true_or] at hj
        rw [h0] at hc
        have HJ := hide hj
        clear h0 hj
        go_wp2
        go_ret
        exact ⟨ret_bool HJ.out.symm, hb1⟩
      · rw [decide_eq_false h0, Bool.false_or] at hj
        have hne : (((byL l)[j].toNat : Int) == 0) = false := by
          rw [beq_eq_false_iff_ne]
          intro e
          exact h0 (UInt8.toNat_inj.1 (by simp; omega))
        generalize (byL l)[j].toNat = q at *
        clear h0
        go_wp2
        go_round
        case rel => exact ⟨j + 1, by omega, by omega, by go_num, hj⟩
        case measure => simp [intOf]; omega
    · obtain rfl : j = n := by omega
      rw [kptL_end] at hj
      have HJ := hide hj
      clear hj
      go_wp2
      go_ret
      exact ⟨ret_bool HJ.out.symm, hb1⟩
end Go.Proofs.YtafhpnkedjbcdawDoor
