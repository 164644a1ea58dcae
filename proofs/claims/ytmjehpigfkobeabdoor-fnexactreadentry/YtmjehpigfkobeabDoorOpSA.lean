/- The contracts of the model's own l3Part, l3Sizes, GoodOp and SizesOf, and of impl.partKind. The contracts of the model's own l3Sizes, GoodOp and SizesOf. -/
import Derived.Test.YtmjehpigfkobeabDoorOpsM
import Derived.Test.YtmjehpigfkobeabDoorRowsPart
namespace Go.Proofs.YtmjehpigfkobeabDoor
open Go.RowKit
open Doc1

theorem emp_b (s : ByteArray) : s.toList.isEmpty = decide (s.data.toList = []) := by rw [ByteArray.toList_eq]; cases s.data.toList <;> simp

set_option maxRecDepth 100000 in
set_option maxHeartbeats 2000000 in
theorem l3Part_any (p : Pt) (w : World) (h1 : p.put.size ≤ 1048576) (h2 : p.drop.size ≤ 1048576) :
    Calls Tryd.prog 81 #[ptV p] w fun e w' => e = .returned (.bool (gp p)) ∧ Below w.heap.size w w' := by
  unfold ptV
  have I := hide (fun w => l1In_any p.keep 1 300 w)
  have G1 := hide (fun w => goodTextS_any p.put w h1)
  have G2 := hide (fun w => goodTextS_any p.drop w h2)
  have e1 := emp_b p.put
  have e2 := emp_b p.drop
  obtain ⟨R, hR⟩ : ∃ R, R = gp p := ⟨_, rfl⟩
  rw [← hR]
  unfold gp at hR
  have HR := hide hR
  clear hR
  by_cases h0 : p.keep = 0
  · have k0 : (p.keep == 0) = true := by simpa using h0
    have HR2 : Hid (R = if p.put.data.toList ≠ [] then decide (p.drop.data.toList = []) && good p.put.data.toList else decide (p.drop.data.toList ≠ []) && good p.drop.data.toList) := hide (by rw [HR.out, if_neg (by simp [h0])])
    clear HR h0
    cases hp : decide (p.put.data.toList = []) with
    | true =>
      have HR3 : Hid (R = (decide (p.drop.data.toList ≠ []) && good p.drop.data.toList)) := hide (by rw [HR2.out, if_neg (by simpa using of_decide_eq_true hp)])
      rw [hp] at e1
      cases hd : decide (p.drop.data.toList = []) with
      | true =>
        rw [hd] at e2
        go_enter Tryd.func81, Tryd.ntmps81
        go_wp2
        go_ret
        exact ⟨ret_bool (by rw [HR3.out, decide_eq_false (by simpa using of_decide_eq_true hd)]; rfl), (Below.refl _ _).alloc (Nat.le_refl _) _⟩
      | false =>
        rw [hd] at e2
        go_enter Tryd.func81, Tryd.ntmps81
        go_wp2_with (go_at_call 45; refine (G2.out _).mono ?_; rintro e w' ⟨rfl, hw⟩; replace hw := hw.symm; subst hw)
        go_ret
        exact ⟨ret_bool (by rw [HR3.out, decide_eq_true (of_decide_eq_false hd)]; rfl), (Below.refl _ _).alloc (Nat.le_refl _) _⟩
    | false =>
      have HR3 : Hid (R = (decide (p.drop.data.toList = []) && good p.put.data.toList)) := hide (by rw [HR2.out, if_pos (of_decide_eq_false hp)])
      rw [hp] at e1
      cases hd : decide (p.drop.data.toList = []) with
      | true =>
        rw [hd] at e2 HR3
        go_enter Tryd.func81, Tryd.ntmps81
        go_wp2_with (go_at_call 45; refine (G1.out _).mono ?_; rintro e w' ⟨rfl, hw⟩; replace hw := hw.symm; subst hw)
        go_ret
        exact ⟨ret_bool (by rw [HR3.out]; rfl), (Below.refl _ _).alloc (Nat.le_refl _) _⟩
      | false =>
        rw [hd] at e2 HR3
        go_enter Tryd.func81, Tryd.ntmps81
        go_wp2
        go_ret
        exact ⟨ret_bool (by rw [HR3.out]; rfl), (Below.refl _ _).alloc (Nat.le_refl _) _⟩
  · have k0 : (p.keep == 0) = false := by simpa using h0
    have HR2 : Hid (R = (decide (1 ≤ p.keep ∧ p.keep ≤ 300) && (decide (p.put.data.toList = []) && decide (p.drop.data.toList = [])))) := hide (by rw [HR.out, if_pos h0])
    clear HR h0
    generalize decide (p.put.data.toList = []) = bp at *
    generalize decide (p.drop.data.toList = []) = bd at *
    generalize decide (1 ≤ p.keep ∧ p.keep ≤ 300) = bk at *
    cases bk <;> cases bp <;> cases bd
    all_goals
      go_enter Tryd.func81, Tryd.ntmps81
      go_wp2_with (go_at_call 55; refine (I.out _).mono ?_; rintro e w' ⟨rfl, hw⟩; replace hw := hw.symm; subst hw)
      go_ret
      exact ⟨ret_bool (by rw [HR2.out]; rfl), (Below.refl _ _).alloc (Nat.le_refl _) _⟩
end Go.Proofs.YtmjehpigfkobeabDoor

namespace Go.Proofs.YtmjehpigfkobeabDoor
open Go.RowKit
open Doc1

/-- Parts in a block of the call's own. -/
structure Pin (w : World) (aw : Option Addr) (g cap : Nat) (l : List Pt) : Prop where
  cap : l.length ≤ cap ∧ cap ≤ maxLen
  sz : ∀ i (hi : i < l.length), l[i].put.size ≤ 1048576 ∧ l[i].drop.size ≤ 1048576
  len : l.length ≤ 1048576
  at' : CLs w g (encP l)
  lt : g < w.heap.size
  ad : l ≠ [] → aw = some ⟨g, 0, none⟩
theorem Pin.adr {w : World} {aw : Option Addr} {g cap : Nat} {l : List Pt} (h : Pin w aw g cap l) {k : Nat} (hk : k < l.length) : aw = some ⟨g, 0, none⟩ := h.ad (fun c => by rw [c] at hk; exact absurd hk (by simp))
theorem Pin.later {w w1 : World} {aw : Option Addr} {g cap : Nat} {l : List Pt} (h : Pin w aw g cap l) (hb : Below w.heap.size w w1) : Pin w1 aw g cap l := ⟨h.cap, h.sz, h.len, h.at'.later hb h.lt, Nat.lt_of_lt_of_le h.lt hb.size, h.ad⟩

set_option maxHeartbeats 2000000 in
theorem l3Sizes_any {w : World} {aw : Option Addr} {g cap : Nat} {l : List Pt} (h : Pin w aw g cap l) (h60 : l.length ≤ 60) (hgp : ∀ p ∈ l, pk p ≠ 0) :
    Calls Tryd.prog 82 #[.slice aw l.length cap] w fun e w' => e = .returned (.tuple #[.int .i64 (tkL l), .int .i64 (mkL l)]) ∧ Below w.heap.size w w' := by
  have hcp := h.cap
  have H := hide h
  have HG := hide hgp
  clear h hgp
  go_enter Tryd.func82, Tryd.ntmps82
  go_wp2
  go_loopw [4, 5, 10] (fun a b i wr => ∃ k : Nat, k ≤ l.length ∧ i = .int .i64 k ∧ a = .int .i64 (tkL (l.take k)) ∧ b = .int .i64 (mkL (l.take k)) ∧ Below w.heap.size w wr) (fun _ _ i _ => l.length - (intOf i).toNat)
  case atStart => exact ⟨0, by omega, rfl, rfl, rfl, Below.refl _ _⟩
  case round =>
    obtain ⟨k, hk, rfl, rfl, rfl, hbel⟩ := hrel
    by_cases hlt : k < l.length
    · obtain rfl := H.out.adr hlt
      obtain ⟨c0, c1, c2⟩ := (H.out.later hbel).at'.ptat k hlt
      have b1 := all_bd (l.take k) (fun p hp => HG.out p (List.mem_of_mem_take hp))
      have b2 := pk_bd (HG.out l[k] (List.getElem_mem hlt))
      have hl1 : (l.take k).length ≤ 60 := by rw [List.length_take]; omega
      have hs := hide (And.intro (tkL_snoc (l.take k) l[k]) (mkL_snoc (l.take k) l[k]))
      have ht : l.take k ++ [l[k]] = l.take (k + 1) := (List.take_succ_eq_append_getElem hlt).symm
      rw [ht] at hs
      unfold tk1 mk1 at b2 hs
      generalize tkL (l.take k) = A at *
      generalize mkL (l.take k) = B at *
      go_wp2
      refine ⟨⟨k + 1, by omega, by go_num, by rw [hs.out.1], by rw [hs.out.2], hbel.alloc hbel.size _⟩, by simp [intOf]; omega⟩
    · obtain rfl : k = l.length := by omega
      rw [List.take_length]
      go_wp2
      go_ret2
      exact ⟨rfl, hbel⟩

theorem all_pk {l : List Pt} (h : l.all gp = true) : ∀ p ∈ l, pk p ≠ 0 := fun p hp => by
  have := List.all_eq_true.1 h p hp
  rw [gp_pk] at this
  simpa using this

set_option maxRecDepth 100000 in
set_option maxHeartbeats 2000000 in
theorem goodOpS {w : World} {aw : Option Addr} {g cap : Nat} {l : List Pt} (h : Pin w aw g cap l) :
    Calls Tryd.prog 54 #[.slice aw l.length cap] w fun e w' => e = .returned (.bool (goodO l)) ∧ Below w.heap.size w w' := by
  have hcp := h.cap
  have hln := h.len
  have H := hide h
  clear h
  by_cases h60 : l.length ≤ 60
  · go_enter Tryd.func54, Tryd.ntmps54
    go_wp2
    go_loopw [12] (fun i wr => ∃ k : Nat, k ≤ l.length ∧ i = .int .i64 k ∧ Hid ((l.take k).all gp = true) ∧ Below w.heap.size w wr) (fun i _ => l.length - (intOf i).toNat)
    case atStart => exact ⟨0, by omega, rfl, hide rfl, Below.refl _ _⟩
    case round =>
      obtain ⟨k, hk, rfl, hall, hbel⟩ := hrel
      by_cases hlt : k < l.length
      · obtain rfl := H.out.adr hlt
        obtain ⟨c0, c1, c2⟩ := (H.out.later hbel).at'.ptat k hlt
        have hs := H.out.sz k hlt
        have P := hide (l3Part_any l[k] (wr.alloc (.cells #[.int .i64 l[k].keep, .string l[k].put, .string l[k].drop] 83)) hs.1 hs.2)
        cases hg : gp l[k] with
        | false =>
          rw [hg] at P
          have Hno := hide (goodO_no_at hlt hg)
          clear hg
          go_wp2_with fail
          refine P.out.mono ?_
          rintro e w2 ⟨rfl, hb2⟩
          go_wp2
          go_ret
          have ha := hbel.alloc hbel.size (.cells #[.int .i64 l[k].keep, .string l[k].put, .string l[k].drop] 83)
          exact ⟨ret_bool Hno.out.symm, ha.trans (hb2.mono ha.size)⟩
        | true =>
          rw [hg] at P
          have Hy : Hid ((l.take (k + 1)).all gp = true) := hide (by rw [List.take_succ_eq_append_getElem hlt, List.all_append, hall.out]; simp [hg])
          clear hg
          go_wp2_with fail
          refine P.out.mono ?_
          rintro e w2 ⟨rfl, hb2⟩
          go_wp2
          have ha := hbel.alloc hbel.size (.cells #[.int .i64 l[k].keep, .string l[k].put, .string l[k].drop] 83)
          refine ⟨⟨k + 1, by omega, by go_num, Hy, ha.trans (hb2.mono ha.size)⟩, by simp [intOf]; omega⟩
      · obtain rfl : k = l.length := by omega
        have hal := hall.out
        rw [List.take_length] at hal
        have hgs := goodO_sums h60 hal
        have S := hide (l3Sizes_any (H.out.later hbel) h60 (all_pk hal))
        have Hgs := hide hgs
        clear hal hgs hall
        go_wp2_with fail
        refine S.out.mono ?_
        rintro e w2 ⟨rfl, hb2⟩
        by_cases ht : tkL l ≤ 300
        · by_cases hm : mkL l ≤ 300
          · go_wp2
            go_ret
            exact ⟨ret_bool (by rw [Hgs.out, decide_eq_true ⟨ht, hm⟩]), hbel.trans (hb2.mono hbel.size)⟩
          · go_wp2
            go_ret
            exact ⟨ret_bool (by rw [Hgs.out]; apply decide_eq_decide.2; omega), hbel.trans (hb2.mono hbel.size)⟩
        · go_wp2
          go_ret
          exact ⟨ret_bool (by rw [Hgs.out]; exact (decide_eq_false (fun c => by omega)).symm), hbel.trans (hb2.mono hbel.size)⟩
  · rw [goodO_no_len h60]
    have h61 : (60 : Int) < (l.length : Int) := by omega
    go_enter Tryd.func54, Tryd.ntmps54
    go_wp2
    go_ret
    exact ⟨rfl, Below.refl _ _⟩

/-- What SizesOf answers. -/
def szT (l : List Pt) : Int := if goodO l then tkL l else 0
def szM (l : List Pt) : Int := if goodO l then mkL l else 0
theorem goodO_parts {l : List Pt} (h : goodO l = true) : l.length ≤ 60 ∧ (∀ p ∈ l, pk p ≠ 0) ∧ tkL l ≤ 300 ∧ mkL l ≤ 300 := by
  unfold goodO at h
  simp only [Bool.and_eq_true, decide_eq_true_eq] at h
  exact ⟨h.1, all_pk h.2.1, h.2.2⟩

end Go.Proofs.YtmjehpigfkobeabDoor
