/- The program's LessSeq. -/
import Derived.Test.YtnhooalibadeeabDoorSqL1
import Derived.Test.YtnhooalibadeeabDoorSqW5
set_option linter.unusedVariables false
namespace Go.Proofs.YtnhooalibadeeabDoor
open Go.RowKit
open Doc1

def lessQ (a b : List Am) : Bool := a.all (fun x => b.any (knw x))
def lsOk (a b : List Am) : Bool := goodQ a && goodQ b
def lsB (a b : List Am) : Bool := lsOk a b && lessQ a b

set_option maxRecDepth 100000 in
set_option maxHeartbeats 1000000 in
theorem knownTo_any (x y : Am) (w : World) :
    Calls Tryd.prog 41 #[amV x, amV y] w fun e w' => e = .returned (.bool (knw x y)) ∧ Below w.heap.size w w' := by
  obtain ⟨w1, hw1⟩ : ∃ w1, w1 = (w.alloc (.cells #[.int .i64 x.time, .int .i64 x.actor, .int .i64 x.above, .int .i64 x.maker, .string x.byte, .bool x.gone] 47)).alloc (.cells #[.int .i64 y.time, .int .i64 y.actor, .int .i64 y.above, .int .i64 y.maker, .string y.byte, .bool y.gone] 47) := ⟨_, rfl⟩
  have hb1 : Below w.heap.size w w1 := by rw [hw1]; exact ((Below.refl _ _).alloc (Nat.le_refl _) _).alloc (by simp) _
  have e1 : (w.alloc (.cells #[.int .i64 x.time, .int .i64 x.actor, .int .i64 x.above, .int .i64 x.maker, .string x.byte, .bool x.gone] 47)).heap.size = w.heap.size + 1 := by simp
  have BX : Hid (BxA w1 w.heap.size x) := hide (by rw [hw1]; exact (BxA.new w x).later ((Below.refl _ _).alloc (Nat.le_refl _) _))
  have BY : Hid (BxA w1 (w.heap.size + 1) y) := hide (by rw [hw1, ← e1]; exact BxA.new _ y)
  have HB := hide hb1
  have N := hide (fun w => saidAs_any x y w)
  obtain ⟨R, hR⟩ : ∃ R, R = knw x y := ⟨_, rfl⟩
  rw [← hR]
  unfold knw at hR
  obtain ⟨B, hB⟩ : ∃ B, B = alk x y := ⟨_, rfl⟩
  rw [← hB] at N hR
  have HR := hide hR
  clear hR hB hb1 e1
  have hV : ∀ x : Am, amV x = .agg #[.int .i64 x.time, .int .i64 x.actor, .int .i64 x.above, .int .i64 x.maker, .string x.byte, .bool x.gone] := fun _ => rfl
  rw [hV, hV] at N ⊢
  clear hV
  obtain ⟨xg, hxg⟩ : ∃ g, g = x.gone := ⟨_, rfl⟩
  obtain ⟨yg, hyg⟩ : ∃ g, g = y.gone := ⟨_, rfl⟩
  have C2 : Hid (∀ w', Below w1.heap.size w1 w' → w'.cell? ⟨w.heap.size, 5, none⟩ = some (.bool xg) ∧ w'.cell? ⟨w.heap.size + 1, 5, none⟩ = some (.bool yg)) := hide (fun w' h => by rw [hxg, hyg]; exact ⟨(BX.out.later h).cells.2.2.2.2.2, (BY.out.later h).cells.2.2.2.2.2⟩)
  obtain ⟨m0, m1, m2, m3, m4, m5⟩ := BX.out.cells
  obtain ⟨n0, n1, n2, n3, n4, n5⟩ := BY.out.cells
  rw [← hxg, ← hyg] at HR
  clear hxg hyg
  go_enter Tryd.func41, Tryd.ntmps41
  go_wp2_with fail
  rw [← hw1]
  clear hw1
  refine (N.out _).mono ?_
  rintro e w2 ⟨rfl, hb2⟩
  obtain ⟨c1, c2⟩ := C2.out w2 hb2
  have HB2 := hide (HB.out.trans (hb2.mono HB.out.size))
  clear hb2
  cases B with
  | false =>
    go_wp2
    go_ret
    exact ⟨ret_bool (by rw [HR.out]; rfl), HB2.out⟩
  | true =>
    cases yg with
    | true =>
      go_wp2
      go_ret
      exact ⟨ret_bool (by rw [HR.out]; rfl), HB2.out⟩
    | false =>
      go_wp2
      go_ret
      exact ⟨ret_bool (by rw [HR.out]; rfl), HB2.out⟩

set_option maxRecDepth 100000 in
set_option maxHeartbeats 2000000 in
theorem indexK_any {w : World} {a : Option Addr} {cap : Nat} {l : List Am} (h : AmIn w a cap l) (hln : l.length ≤ 1048576) (y : Am) :
    Calls Tryd.prog 48 #[.slice a l.length cap, .func (.func 41) #[amV y] #[]] w fun e w' => e = .returned (.int .i64 (fidx (knw y) l)) ∧ Below w.heap.size w w' := by
  obtain ⟨R, hR⟩ : ∃ R, R = fidx (knw y) l := ⟨_, rfl⟩
  rw [← hR]
  have HR := hide hR
  clear hR
  have H := hide h
  have hcp := h.le
  clear h
  unfold amV
  go_enter Tryd.func48, Tryd.ntmps48
  go_wp2
  go_loopw [8] (fun i wr => ∃ k : Nat, k ≤ l.length ∧ i = .int .i64 k ∧ Hid (∀ x ∈ l.take k, knw y x = false) ∧ Below w.heap.size w wr) (fun i _ => l.length - (intOf i).toNat)
  case atStart => exact ⟨0, by omega, rfl, hide (by simp), Below.refl _ _⟩
  case round =>
    obtain ⟨k, hk, rfl, hno, hbel⟩ := hrel
    by_cases hlt : k < l.length
    · obtain ⟨g, rfl, hg, hc⟩ := (H.out.later hbel).ad (by intro c; rw [c] at hlt; simp at hlt)
      obtain ⟨c0, c1, c2, c3, c4, c5⟩ := hc.amat k hlt
      have N := hide (knownTo_any y l[k] wr)
      have HB := hide hbel
      clear hc hbel
      unfold amV at N
      by_cases hp : knw y l[k] = true
      · rw [hp] at N
        have HP := hide hp
        clear hp
        go_wp2_with (go_at_call 41; refine N.out.mono ?_; rintro e w2 ⟨rfl, hb2⟩)
        go_ret
        refine ⟨ret_i2 ?_, HB.out.trans (hb2.mono HB.out.size)⟩
        rw [HR.out, fidx_some hlt hno.out HP.out]
      · have hp' : knw y l[k] = false := by simpa using hp
        have HY : Hid (∀ x ∈ l.take (k + 1), knw y x = false) := hide (by
          rw [List.take_succ_eq_append_getElem hlt]
          intro p hp
          rcases List.mem_append.1 hp with c | c
          · exact hno.out p c
          · simp at c; subst c; exact hp')
        rw [hp'] at N
        clear hp hp'
        go_wp2_with (go_at_call 41; refine N.out.mono ?_; rintro e w2 ⟨rfl, hb2⟩)
        refine ⟨⟨k + 1, by omega, by go_num, HY, HB.out.trans (hb2.mono HB.out.size)⟩, by simp [intOf]; omega⟩
    · obtain rfl : k = l.length := by omega
      have hall := hno.out
      rw [List.take_length] at hall
      have HA := hide hall
      clear hall
      go_wp2
      go_ret
      refine ⟨ret_i2 ?_, hbel⟩
      rw [HR.out, fidx_none HA.out]

set_option maxRecDepth 100000 in
set_option maxHeartbeats 1000000 in
theorem containsK_any {w : World} {a : Option Addr} {cap : Nat} {l : List Am} (h : AmIn w a cap l) (hln : l.length ≤ 1048576) (y : Am) :
    Calls Tryd.prog 40 #[.slice a l.length cap, .func (.func 41) #[amV y] #[]] w fun e w' => e = .returned (.bool (l.any (knw y))) ∧ Below w.heap.size w w' := by
  have N := hide (indexK_any h hln y)
  have FX : Hid (decide (0 ≤ fidx (knw y) l) = l.any (knw y)) := hide (fidx_any _ _)
  obtain ⟨F, hF⟩ : ∃ F, F = fidx (knw y) l := ⟨_, rfl⟩
  rw [← hF] at N FX
  rw [← FX.out]
  clear h hF
  go_enter Tryd.func40, Tryd.ntmps40
  go_wp2_with (go_at_call 48; refine N.out.mono ?_; rintro e w2 ⟨rfl, hb2⟩)
  go_ret
  exact ⟨rfl, hb2⟩

theorem boxS2 (w : World) (x y : Value) : ∃ w1, w1 = (w.alloc (.cells #[x] 28)).alloc (.cells #[y] 28) ∧ Below w.heap.size w w1 ∧ CellR w1 w.heap.size x ∧ CellR w1 (w.heap.size + 1) y := by
  obtain ⟨-, h1, h2, h3⟩ := boxesS2 w x y
  exact ⟨_, rfl, h1, h2, h3⟩

set_option maxRecDepth 100000 in
set_option maxHeartbeats 4000000 in
theorem lessSeqI {w : World} {a : Option Addr} {cap : Nat} {l : List Am} (h : SIn w a cap l) {a2 : Option Addr} {cap2 : Nat} {m : List Am} (h2 : SIn w a2 cap2 m) (hT : Tab w) :
    Calls Tryd.prog 19 #[.agg #[.slice a l.length cap], .agg #[.slice a2 m.length cap2]] w fun e w' => e = .returned (.tuple #[.bool (lsB l m), .bool (lsOk l m)]) ∧ Below w.heap.size w w' := by
  obtain ⟨R1, hR1⟩ : ∃ R, R = lsB l m := ⟨_, rfl⟩
  obtain ⟨R2, hR2⟩ : ∃ R, R = lsOk l m := ⟨_, rfl⟩
  rw [← hR1, ← hR2]
  unfold lsB at hR1
  rw [← hR2] at hR1
  unfold lsOk at hR2
  have HR1 := hide hR1
  have HR2 := hide hR2
  clear hR1 hR2
  obtain ⟨w1, hw1, hb1, hk1, hk2⟩ := boxS2 w (.slice a l.length cap) (.slice a2 m.length cap2)
  have H1 := hide (h.later hb1)
  have H2 := hide (h2.later hb1)
  have HK1 := hide hk1
  have HK2 := hide hk2
  have HB1 := hide hb1
  have hcp := h.inn.le
  have hln := h.len
  have hlm := h2.len
  have TB := hide (fun w' (hb : Below w1.heap.size w1 w') => (hT.below hb1).below hb)
  have G1 := hide (fun w' (hb : Below w1.heap.size w1 w') => goodSeqI (H1.out.later hb) (TB.out w' hb))
  have G2 := hide (fun w' (hb : Below w1.heap.size w1 w') => goodSeqI (H2.out.later hb) (TB.out w' hb))
  obtain ⟨B1, hB1⟩ : ∃ B, B = goodQ l := ⟨_, rfl⟩
  obtain ⟨B2, hB2⟩ : ∃ B, B = goodQ m := ⟨_, rfl⟩
  rw [← hB1] at G1 HR2
  rw [← hB2] at G2 HR2
  have GQ2 := hide hB2
  have k1 := hk1.cell
  have k2 := hk2.cell
  clear h h2 hb1 hk1 hk2 hB1 hB2 hT
  go_enter Tryd.func19, Tryd.ntmps19
  rw [hw1] at k1 k2
  go_wp2_with fail
  rw [← hw1] at k1 k2 ⊢
  clear hw1
  refine (G1.out _ (Below.refl _ _)).mono ?_
  rintro e w2 ⟨rfl, hb2⟩
  clear k1 k2
  have k2 := (HK2.out.later hb2).cell
  have HB2 := hide hb2
  clear hb2
  cases B1 with
  | false =>
    have E2 : Hid (R2 = false) := hide (by rw [HR2.out]; rfl)
    have E1 : Hid (R1 = false) := hide (by rw [HR1.out, E2.out]; rfl)
    go_wp2
    go_ret2
    exact ⟨by rw [E1.out, E2.out]; rfl, HB1.out.trans (HB2.out.mono HB1.out.size)⟩
  | true =>
    go_wp2_with fail
    refine (G2.out _ HB2.out).mono ?_
    rintro e w3 ⟨rfl, hb3⟩
    clear k2
    have HB3 := hide (HB2.out.trans (hb3.mono HB2.out.size))
    clear hb3
    cases B2 with
    | false =>
      have E2 : Hid (R2 = false) := hide (by rw [HR2.out]; rfl)
      have E1 : Hid (R1 = false) := hide (by rw [HR1.out, E2.out]; rfl)
      go_wp2
      go_ret2
      exact ⟨by rw [E1.out, E2.out]; rfl, HB1.out.trans (HB3.out.mono HB1.out.size)⟩
    | true =>
      have E2 : Hid (R2 = true) := hide (by rw [HR2.out]; rfl)
      have E1 : Hid (R1 = lessQ l m) := hide (by rw [HR1.out, E2.out]; rfl)
      have k1 := (HK1.out.later HB3.out).cell
      have HB13 := hide (HB1.out.trans (HB3.out.mono HB1.out.size))
      go_wp2
      clear k1
      go_loopw [19] (fun i wr => ∃ k : Nat, k ≤ l.length ∧ i = .int .i64 k ∧ Hid (∀ x ∈ l.take k, m.any (knw x) = true) ∧ Below w3.heap.size w3 wr) (fun i _ => l.length - (intOf i).toNat)
      case atStart => exact ⟨0, by omega, rfl, hide (by simp), Below.refl _ _⟩
      case round =>
        obtain ⟨k, hk, rfl, hall, hbel⟩ := hrel
        have HB4 := hide (HB3.out.trans (hbel.mono HB3.out.size))
        have HB14 := hide (HB13.out.trans (hbel.mono HB13.out.size))
        by_cases hlt : k < l.length
        · obtain ⟨g, rfl, hg, hc⟩ := (H1.out.later HB4.out).inn.ad (by intro c; rw [c] at hlt; simp at hlt)
          obtain ⟨x, hx⟩ : ∃ x, x = l[k] := ⟨_, rfl⟩
          have hca := hc.amat k hlt
          rw [← hx] at hca
          obtain ⟨c0, c1, c2, c3, c4, c5⟩ := hca
          obtain ⟨v1, hv1⟩ : ∃ w1, w1 = wr.alloc (.cells #[.int .i64 x.time, .int .i64 x.actor, .int .i64 x.above, .int .i64 x.maker, .string x.byte, .bool x.gone] 47) := ⟨_, rfl⟩
          have hbv : Below wr.heap.size wr v1 := by rw [hv1]; exact (Below.refl _ _).alloc (Nat.le_refl _) _
          have BX : Hid (BxA v1 wr.heap.size x) := hide (by rw [hv1]; exact BxA.new _ _)
          have HB5 := hide (HB4.out.trans (hbv.mono HB4.out.size))
          have HB15 := hide (HB14.out.trans (hbv.mono HB14.out.size))
          have HB35 := hide (hbel.trans (hbv.mono hbel.size))
          have k2 := (HK2.out.later HB5.out).cell
          have LN : Hid (m.any (knw x) = false → lessQ l m = false) := hide (fun h => by
            unfold lessQ
            rw [List.all_eq_false]
            exact ⟨x, by rw [hx]; exact List.getElem_mem hlt, by rw [h]; simp⟩)
          have LY : Hid (m.any (knw x) = true → ∀ z ∈ l.take (k + 1), m.any (knw z) = true) := hide (fun h z hz => by
            rw [List.take_succ_eq_append_getElem hlt] at hz
            rcases List.mem_append.1 hz with c | c
            · exact hall.out z c
            · simp at c; subst c; rw [← hx]; exact h)
          clear hc hbel hbv hx hall
          obtain ⟨m0, m1, m2, m3, m4, m5⟩ := BX.out.cells
          rw [hv1] at k2 m0 m1 m2 m3 m4 m5
          go_wp2_with fail
          rw [← hv1] at k2 m0 m1 m2 m3 m4 m5 ⊢
          clear hv1 c0 c1 c2 c3 c4 c5
          have N := hide (containsK_any (H2.out.later HB5.out).inn hlm x)
          unfold amV at N
          obtain ⟨B, hB⟩ : ∃ B, B = m.any (knw x) := ⟨_, rfl⟩
          rw [← hB] at N LN LY
          clear hB
          refine N.out.mono ?_
          rintro e v2 ⟨rfl, hv2⟩
          have HB16 := hide (HB15.out.trans (hv2.mono HB15.out.size))
          have HB36 := hide (HB35.out.trans (hv2.mono HB35.out.size))
          clear hv2
          cases B with
          | false =>
            have EL : Hid (lessQ l m = false) := hide (LN.out (by trivial))
            clear LN LY
            go_wp2
            go_ret2
            exact ⟨by rw [E1.out, E2.out, EL.out]; rfl, HB16.out⟩
          | true =>
            have HY : Hid (∀ z ∈ l.take (k + 1), m.any (knw z) = true) := hide (LY.out (by trivial))
            clear LN LY
            go_wp2
            refine ⟨⟨k + 1, by omega, by go_num, HY, HB36.out⟩, by simp [intOf]; omega⟩
        · obtain rfl : k = l.length := by omega
          have ha := hall.out
          rw [List.take_length] at ha
          have EL : Hid (lessQ l m = true) := hide (by unfold lessQ; rw [List.all_eq_true]; exact ha)
          clear ha hall hbel
          go_wp2
          go_ret2
          exact ⟨by rw [E1.out, E2.out, EL.out]; rfl, HB14.out⟩

end Go.Proofs.YtnhooalibadeeabDoor
