/- The program's limbs that are split. -/
import Derived.Test.YtgacajnljplmiabDoorRop7
set_option linter.unusedVariables false
namespace Go.Proofs.YtgacajnljplmiabDoor
open Go.RowKit
open Doc1

def SpPost (t : Lm) (n : Nat) (w : World) (e : Ending) (w' : World) : Prop := e = .returned (.tuple #[lvO (spl t n).1, lvO (spl t n).2]) ∧ Below w.heap.size w w'

set_option maxRecDepth 100000 in
set_option maxHeartbeats 4000000 in
theorem splitLimb_zero (v : Value) (w : World) :
    Calls Tryd.prog 72 #[v, .int .i64 0] w fun e w' => e = .returned (.tuple #[.nilIface, v]) ∧ Below w.heap.size w w' := by
  go_enter Tryd.func72, Tryd.ntmps72
  go_wp2
  go_ret2
  exact ⟨rfl, Below.refl _ _⟩

set_option maxRecDepth 100000 in
set_option maxHeartbeats 4000000 in
theorem splitLimb_all (t : Lm) (w : World) (h0 : 0 < t.sz) :
    Calls Tryd.prog 72 #[lv t, .int .i64 (t.sz : Int)] w fun e w' => e = .returned (.tuple #[lv t, .nilIface]) ∧ Below w.heap.size w w' := by
  have L := hide (lengthOf_any (some t) w)
  rw [show lvO (some t) = lv t from rfl, show szO (some t) = t.sz from rfl] at L
  obtain ⟨v, hv⟩ : ∃ v, lv t = v := ⟨_, rfl⟩
  rw [hv] at L ⊢
  have h1 : ((t.sz : Int) == 0) = false := by rw [beq_eq_false_iff_ne]; omega
  clear hv
  go_enter Tryd.func72, Tryd.ntmps72
  go_wp2_with fail
  refine L.out.mono ?_
  rintro e w1 ⟨rfl, hb1⟩
  go_wp2
  go_ret2
  exact ⟨rfl, hb1⟩

set_option maxRecDepth 100000 in
set_option maxHeartbeats 4000000 in
theorem splitLimb_pc (s : ByteArray) (n : Nat) (w : World) (h0 : 0 < n) (hn : n < s.size) (hs : s.size ≤ 100000) :
    Calls Tryd.prog 72 #[.iface 146 (.string s), .int .i64 (n : Int)] w fun e w' => e = .returned (.tuple #[.iface 146 (.string (s.extract 0 n)), .iface 146 (.string (s.extract n s.size))]) ∧ Below w.heap.size w w' := by
  have L := hide (lengthOf_any (some (.pc s)) w)
  rw [show lvO (some (.pc s)) = .iface 146 (.string s) from rfl, show szO (some (.pc s)) = s.size from rfl] at L
  have h1 : ((n : Int) == 0) = false := by rw [beq_eq_false_iff_ne]; omega
  have h2 : ((n : Int) == (s.size : Int)) = false := by rw [beq_eq_false_iff_ne]; omega
  have ht := taP_pc s
  have hb1 : (n : Int) ≤ (s.size : Int) := by omega
  go_enter Tryd.func72, Tryd.ntmps72
  go_wp2_with fail
  refine L.out.mono ?_
  rintro e w1 ⟨rfl, hb1⟩
  go_wp2
  go_region
  all_goals
    go_wp2
    go_ret2
    exact ⟨rfl, hb1.trans (Below.refl _ _).drew⟩
theorem cells3 {w w' : World} {x y z : Value} {T : TypeId} (hb : Below (w.heap.size + 1) (w.alloc (.cells #[x, y, z] T)) w') : w'.cell? ⟨w.heap.size, 0, none⟩ = some x ∧ w'.cell? ⟨w.heap.size, 1, none⟩ = some y := by
  have h : w'.heap[w.heap.size]? = some (.cells #[x, y, z] T) := by rw [hb.block _ (by omega)]; exact heap_alloc_new w _
  exact ⟨by rw [cell_of_row _ _ 0 _ _ (0, 0) h]; rfl, by rw [cell_of_row _ _ 1 _ _ (0, 0) h]; rfl⟩

set_option maxRecDepth 100000 in
set_option maxHeartbeats 4000000 in
theorem splitLimb_jn (a b : Lm) (n : Nat) (w : World) (h0 : 0 < n) (hn : n < a.sz + b.sz) (hs : a.sz + b.sz ≤ 100000) (ha0 : 0 < a.sz)
    (iha : ∀ m w, m ≤ a.sz → Calls Tryd.prog 72 #[lv a, .int .i64 (m : Int)] w (SpPost a m w)) (ihb : ∀ m w, m ≤ b.sz → Calls Tryd.prog 72 #[lv b, .int .i64 (m : Int)] w (SpPost b m w))
    (za : ∀ m, m ≤ a.sz → szO (spl a m).2 ≤ 100000) (zb : ∀ m, m ≤ b.sz → szO (spl b m).1 ≤ 100000) :
    Calls Tryd.prog 72 #[lv (.jn a b), .int .i64 (n : Int)] w (SpPost (.jn a b) n w) := by
  have L := hide (lengthOf_any (some (.jn a b)) w)
  obtain ⟨Ta, xa, Ka, hva, ka, ma, ca⟩ := lv_size a
  obtain ⟨Tb, xb, -, hvb, -⟩ := lv_size b
  have JA := hide (fun o w (h : szO o ≤ 1000000) => joinLimbs_any o (some b) w h (by simp only [szO]; omega))
  have JB := hide (fun o w (h : szO o ≤ 1000000) => joinLimbs_any (some a) o w (by simp only [szO]; omega) h)
  rw [show lvO (some a) = .iface Ta xa from hva] at JB
  rw [show lvO (some b) = .iface Tb xb from hvb] at JA
  obtain ⟨z, hz⟩ : ∃ z : Nat, z = a.sz + b.sz := ⟨_, rfl⟩
  have hlv : lv (.jn a b) = .iface 166 (.agg #[.iface Ta xa, .iface Tb xb, .int .i64 (z : Int)]) := by
    show Value.iface _ (.agg #[lv a, lv b, _]) = _
    rw [hva, hvb, hz]
  rw [show lvO (some (.jn a b)) = lv (.jn a b) from rfl, hlv, show szO (some (.jn a b)) = a.sz + b.sz from rfl, ← hz] at L
  rw [hlv]
  have HS : Hid (spl (.jn a b) n = if n ≤ a.sz then ((spl a n).1, jo (spl a n).2 (some b)) else (jo (some a) (spl b (n - a.sz)).1, (spl b (n - a.sz)).2)) := hide (by simp only [spl]; rw [if_neg (by omega), if_neg (by omega)])
  rw [hva] at iha
  rw [hvb] at ihb
  have IA := hide iha
  have IB := hide ihb
  have ZA := hide za
  have ZB := hide zb
  have CA := hide ca
  have h1 : ((n : Int) == 0) = false := by rw [beq_eq_false_iff_ne]; omega
  have h2 : ((n : Int) == (z : Int)) = false := by rw [beq_eq_false_iff_ne]; omega
  have ht1 := taP_jn (.agg #[.iface Ta xa, .iface Tb xb, .int .i64 (z : Int)])
  have ht2 := taJ_sure (.agg #[.iface Ta xa, .iface Tb xb, .int .i64 (z : Int)])
  have hnz : n < z ∧ z ≤ 100000 := by omega
  have HZ := hide hz
  unfold SpPost at *
  clear iha ihb za zb ca hlv hva hvb hz hn hs
  by_cases hc : n ≤ a.sz
  · rw [HS.out, if_pos hc]
    have hc' : decide ((n : Int) ≤ (a.sz : Int)) = true := by rw [decide_eq_true_iff]; omega
    have I := hide (fun w => IA.out n w hc)
    have J := hide (fun w => JA.out (spl a n).2 w (by have := ZA.out n hc; omega))
    obtain ⟨o1, ho1⟩ : ∃ o1, (spl a n).1 = o1 := ⟨_, rfl⟩
    obtain ⟨o2, ho2⟩ : ∃ o2, (spl a n).2 = o2 := ⟨_, rfl⟩
    rw [ho1, ho2] at I ⊢
    rw [ho2] at J
    obtain ⟨v1, hv1⟩ : ∃ v, lvO o1 = v := ⟨_, rfl⟩
    obtain ⟨v2, hv2⟩ : ∃ v, lvO o2 = v := ⟨_, rfl⟩
    obtain ⟨v3, hv3⟩ : ∃ v, lvO (jo o2 (some b)) = v := ⟨_, rfl⟩
    simp only [hv1, hv2, hv3] at I J ⊢
    clear ho1 ho2 hv1 hv2 hv3 HS IA IB JA JB ZA ZB HZ
    go_enter Tryd.func72, Tryd.ntmps72
    go_wp2_with fail
    refine L.out.mono ?_
    rintro e w1 ⟨rfl, hb1⟩
    have HB1 := hide hb1
    clear hb1
    go_wp2_with fail
    refine (CA.out _).mono ?_
    rintro e w2 ⟨rfl, hb2⟩
    have hsz : (w1.alloc (.cells #[.iface Ta xa, .iface Tb xb, .int .i64 (z : Int)] 166)).heap.size = w1.heap.size + 1 := by simp
    rw [hsz] at hb2
    obtain ⟨c0, c1⟩ := cells3 hb2
    have HB2 := hide hb2
    have hs2 := hb2.size
    rw [hsz] at hs2
    clear hb2 hsz
    go_wp2_with fail
    refine (I.out w2).mono ?_
    rintro e w3 ⟨rfl, hb3⟩
    have c1' : w3.cell? ⟨w1.heap.size, 1, none⟩ = some (.iface Tb xb) := (World.cell?_of_block (hb3.block _ (by show w1.heap.size < _; omega))).trans c1
    have HB3 := hide hb3
    clear hb3 c0 c1
    go_wp2_with fail
    refine (J.out w3).mono ?_
    rintro e w4 ⟨rfl, hb4⟩
    have HB4 := hide hb4
    clear hb4
    go_wp2
    go_ret2
    have q1 := HB1.out
    have q2 : Below w1.heap.size w1 w2 := ((Below.refl _ _).alloc (Nat.le_refl _) _).trans (HB2.out.mono (by omega))
    have q3 := HB3.out
    have q4 := HB4.out
    exact ⟨rfl, q1.trans ((q2.trans ((q3.trans (q4.mono q3.size)).mono q2.size)).mono q1.size)⟩
  · rw [HS.out, if_neg hc]
    have hc' : decide ((n : Int) ≤ (a.sz : Int)) = false := by rw [decide_eq_false_iff_not]; omega
    have hle : n - a.sz ≤ b.sz := by have := HZ.out; omega
    have I := hide (fun w => IB.out (n - a.sz) w hle)
    have J := hide (fun w => JB.out (spl b (n - a.sz)).1 w (by have := ZB.out (n - a.sz) hle; omega))
    obtain ⟨o1, ho1⟩ : ∃ o1, (spl b (n - a.sz)).1 = o1 := ⟨_, rfl⟩
    obtain ⟨o2, ho2⟩ : ∃ o2, (spl b (n - a.sz)).2 = o2 := ⟨_, rfl⟩
    rw [ho1, ho2] at I ⊢
    rw [ho1] at J
    obtain ⟨v1, hv1⟩ : ∃ v, lvO o1 = v := ⟨_, rfl⟩
    obtain ⟨v2, hv2⟩ : ∃ v, lvO o2 = v := ⟨_, rfl⟩
    obtain ⟨v3, hv3⟩ : ∃ v, lvO (jo (some a) o1) = v := ⟨_, rfl⟩
    simp only [hv1, hv2, hv3] at I J ⊢
    have ew : IntKind.i64.wrap ((n : Int) - (a.sz : Int)) = ((n - a.sz : Nat) : Int) := by rw [IntKind.wrap_i64]; omega
    obtain ⟨d, hd⟩ : ∃ d : Nat, n - a.sz = d := ⟨_, rfl⟩
    rw [hd] at ew I
    clear ho1 ho2 hv1 hv2 hv3 HS IA IB JA JB ZA ZB HZ hd hle
    go_enter Tryd.func72, Tryd.ntmps72
    go_wp2_with fail
    refine L.out.mono ?_
    rintro e w1 ⟨rfl, hb1⟩
    have HB1 := hide hb1
    clear hb1
    go_wp2_with fail
    refine (CA.out _).mono ?_
    rintro e w2 ⟨rfl, hb2⟩
    have hsz : (w1.alloc (.cells #[.iface Ta xa, .iface Tb xb, .int .i64 (z : Int)] 166)).heap.size = w1.heap.size + 1 := by simp
    rw [hsz] at hb2
    have CC := cells3 hb2
    have HB2 := hide hb2
    have hs2 := hb2.size
    rw [hsz] at hs2
    clear hb2 hsz
    go_upto_region 13 with fail
    go_cut [11, 12] from 55 to 65 (fun u1 u2 wx => u1 = v1 ∧ u2 = v2 ∧ Below w2.heap.size w2 wx)
    case first =>
      go_region_held3 (fun w' => w'.cell? ⟨w1.heap.size, 0, none⟩ = some (.iface Ta xa) ∧ w'.cell? ⟨w1.heap.size, 1, none⟩ = some (.iface Tb xb))
        (first | assumption | exact CC | exact CC3 | exact CC4)
        (first
          | (go_at_call 72; refine (I.out w3).mono ?_; rintro e w4 ⟨rfl, hb4⟩; have CC4 : w4.cell? ⟨w1.heap.size, 0, none⟩ = some (.iface Ta xa) ∧ w4.cell? ⟨w1.heap.size, 1, none⟩ = some (.iface Tb xb) := ⟨(World.cell?_of_block (hb4.block _ (by show w1.heap.size < _; have := hb3.size; simp at this; omega))).trans CC3.1, (World.cell?_of_block (hb4.block _ (by show w1.heap.size < _; have := hb3.size; simp at this; omega))).trans CC3.2⟩)
          | (refine (CA.out _).mono ?_; rintro e w3 ⟨rfl, hb3⟩; have CC3 : w3.cell? ⟨w1.heap.size, 0, none⟩ = some (.iface Ta xa) ∧ w3.cell? ⟨w1.heap.size, 1, none⟩ = some (.iface Tb xb) := ⟨(World.cell?_of_block (hb3.block _ (by show w1.heap.size < _; simp; omega))).trans CC.1, (World.cell?_of_block (hb3.block _ (by show w1.heap.size < _; simp; omega))).trans CC.2⟩))
      all_goals
        go_wp2_with fail
        go_meet
        case rel => exact ⟨rfl, rfl, (Below.refl _ _).drew.trans (hb3.trans (hb4.mono hb3.size))⟩
    case rest =>
      obtain ⟨rfl, rfl, hbx⟩ := hcut
      have c0 := (World.cell?_of_block (hbx.block _ (by show w1.heap.size < _; omega))).trans CC.1
      have HBX := hide hbx
      clear hbx CC
      go_wp2_with fail
      refine (J.out _).mono ?_
      rintro e w4 ⟨rfl, hb4⟩
      have HB4 := hide hb4
      clear hb4
      go_wp2
      go_ret2
      have q1 := HB1.out
      have q2 : Below w1.heap.size w1 w2 := ((Below.refl _ _).alloc (Nat.le_refl _) _).trans (HB2.out.mono (by omega))
      have q3 := HBX.out
      have q4 := HB4.out
      exact ⟨rfl, q1.trans ((q2.trans ((q3.trans (q4.mono q3.size)).mono q2.size)).mono q1.size)⟩

theorem spl_sz (t : Lm) : ∀ n, n ≤ t.sz → szO (spl t n).1 = n ∧ szO (spl t n).2 = t.sz - n := by
  induction t with
  | pc s =>
    intro n hn
    simp only [Lm.sz] at hn ⊢
    simp only [spl]
    split
    · subst n; exact ⟨rfl, rfl⟩
    · split
      · subst n; exact ⟨rfl, (Nat.sub_self _).symm⟩
      · simp only [szO, Lm.sz, ByteArray.size_extract]; omega
  | jn a b iha ihb =>
    intro n hn
    simp only [Lm.sz] at hn ⊢
    simp only [spl]
    split
    · subst n; exact ⟨rfl, rfl⟩
    · split
      · subst n; exact ⟨rfl, (Nat.sub_self _).symm⟩
      · split
        · rename_i h1 h2 h3
          have := iha n h3
          refine ⟨this.1, ?_⟩
          show szO (jo (spl a n).2 (some b)) = _
          rw [jo_sz, this.2]
          simp only [szO]; omega
        · rename_i h1 h2 h3
          have := ihb (n - a.sz) (by omega)
          refine ⟨?_, ?_⟩
          · show szO (jo (some a) (spl b (n - a.sz)).1) = _
            rw [jo_sz, this.1]
            simp only [szO]; omega
          · show szO (spl b (n - a.sz)).2 = _
            rw [this.2]; omega

theorem splitLimb_any (t : Lm) : ∀ (n : Nat) (w : World), n ≤ t.sz → t.gd → t.sz ≤ 100000 → Calls Tryd.prog 72 #[lv t, .int .i64 (n : Int)] w (SpPost t n w) := by
  induction t with
  | pc s =>
    intro n w hn hg hz
    have h8 := (gd_sz hg).1
    by_cases h0 : n = 0
    · subst h0
      unfold SpPost
      rw [spl_zero]
      exact splitLimb_zero _ w
    · by_cases h1 : n = s.size
      · subst h1
        unfold SpPost
        have e : spl (.pc s) s.size = (some (.pc s), none) := spl_all (.pc s) h8
        rw [e]
        exact splitLimb_all (.pc s) w h8
      · unfold SpPost
        have e : spl (.pc s) n = (some (.pc (s.extract 0 n)), some (.pc (s.extract n s.size))) := by simp only [spl]; rw [if_neg h0, if_neg h1]
        rw [e]
        simp only [Lm.sz] at hn hz
        exact splitLimb_pc s n w (by omega) (by omega) (by omega)
  | jn a b iha ihb =>
    intro n w hn hg hz
    have h8 := (gd_sz hg).1
    obtain ⟨ga, gb⟩ := gd_jn.1 hg
    have sa := (gd_sz ga).1
    have sb := (gd_sz gb).1
    by_cases h0 : n = 0
    · subst h0
      unfold SpPost
      rw [spl_zero]
      exact splitLimb_zero _ w
    · by_cases h1 : n = (Lm.jn a b).sz
      · subst h1
        unfold SpPost
        rw [spl_all _ h8]
        exact splitLimb_all _ w h8
      · simp only [Lm.sz] at hn hz h1
        exact splitLimb_jn a b n w (by omega) (by omega) hz sa (fun m w hm => iha m w hm ga (by omega)) (fun m w hm => ihb m w hm gb (by omega)) (fun m hm => by have := (spl_sz a m hm).2; omega) (fun m hm => by have := (spl_sz b m hm).1; omega)
/-- Of a limb or none. -/
theorem splitLimb_opt (o : Option Lm) (n : Nat) (w : World) (hn : n ≤ szO o) (hg : gdO o) (hz : szO o ≤ 100000) : Calls Tryd.prog 72 #[lvO o, .int .i64 (n : Int)] w fun e w' => e = .returned (.tuple #[lvO (splO o n).1, lvO (splO o n).2]) ∧ Below w.heap.size w w' := by
  cases o with
  | none =>
    have h0 : n = 0 := by simp only [szO] at hn; omega
    subst h0
    exact splitLimb_zero _ w
  | some t => exact splitLimb_any t n w hn hg hz
end Go.Proofs.YtgacajnljplmiabDoor
