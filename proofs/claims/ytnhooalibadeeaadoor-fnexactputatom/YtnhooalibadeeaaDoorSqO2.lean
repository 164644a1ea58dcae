/- The program's inOrder and OrderOf. -/
import Derived.Test.YtnhooalibadeeaaDoorSqO1
set_option linter.unusedVariables false
namespace Go.Proofs.YtnhooalibadeeaaDoor
open Go.RowKit
open Doc1

theorem ints_at (xs : List Int) {j : Nat} (hj : j < xs.length) : (ints xs)[j]? = some (.int .i64 xs[j]) := by simp [ints, hj]

set_option maxRecDepth 100000 in
set_option maxHeartbeats 2000000 in
theorem indexO_any {w : World} {g cap B : Nat} {l : List Am} (hc : CLs w g (encAm l)) (hg : g < w.heap.size) (hln : l.length ≤ 1048576) (x : Am) (bl ba : Nat) (hl : w.heap[bl]? = some (.cells #[.slice (some ⟨g, 0, none⟩) l.length cap] 23)) (ha : BxA w ba x) {v : Value} {o : List Nat} (hv : IOwn w B v (oI o)) (ho : ∀ j ∈ o, j < l.length) (hol : o.length ≤ 1000000) :
    Calls Tryd.prog 77 #[v, .func (.func 78) #[] #[.pointer (some ⟨bl, 0, none⟩), .pointer (some ⟨ba, 0, none⟩)]] w fun e w' => e = .returned (.int .i64 (fidx (atN l x.above x.maker) o)) ∧ Below w.heap.size w w' := by
  obtain ⟨R, hR⟩ : ∃ R, R = fidx (atN l x.above x.maker) o := ⟨_, rfl⟩
  rw [← hR]
  have HR := hide hR
  have hbl : bl < w.heap.size := (Array.getElem?_eq_some_iff.1 hl).1
  have C := hide (fun (w' : World) (hb : Below w.heap.size w w') (k : Nat) (hk : k < l.length) => inOrder1_any (hc.later hb hg) (Nat.lt_of_lt_of_le hg hb.size) hln x bl ba ((hb.block bl hbl).trans hl) (ha.later hb) k hk)
  obtain ⟨av, cv, rfl, hle, hmx⟩ := own_shp hv
  have HV : Hid (∀ w', Below w.heap.size w w' → ∀ k (hk : k < o.length), ∃ gv, av = some ⟨gv, 0, none⟩ ∧ w'.cell? ⟨gv, k, none⟩ = some (.int .i64 ((o[k] : Nat) : Int))) := hide (fun w' hb k hk => by
    obtain ⟨gv, cap2, e, -, -, -, h3, h4, -⟩ := own_cat hv (by rw [oI_len]; omega)
    cases e
    refine ⟨gv, rfl, (h4.later hb h3) k _ ?_⟩
    rw [ints_at (oI o) (by rw [oI_len]; exact hk), oI_at])
  have HO := hide ho
  rw [oI_len] at hle ⊢
  unfold maxLen at hmx
  clear hR hc hl ha hv ho
  go_enter Tryd.func77, Tryd.ntmps77
  go_wp2
  go_loopw [8] (fun i wr => ∃ k : Nat, k ≤ o.length ∧ i = .int .i64 k ∧ Hid (∀ j ∈ o.take k, atN l x.above x.maker j = false) ∧ Below w.heap.size w wr) (fun i _ => o.length - (intOf i).toNat)
  case atStart => exact ⟨0, by omega, rfl, hide (by simp), Below.refl _ _⟩
  case round =>
    obtain ⟨k, hk, rfl, hno, hbel⟩ := hrel
    by_cases hlt : k < o.length
    · obtain ⟨gv, rfl, c0⟩ := HV.out wr hbel k hlt
      have N := hide (C.out wr hbel o[k] (HO.out _ (List.getElem_mem hlt)))
      have HB := hide hbel
      clear hbel
      obtain ⟨j, hj⟩ : ∃ j, j = o[k] := ⟨_, rfl⟩
      rw [← hj] at N c0
      have HJ := hide hj
      clear hj
      cases hp : atN l x.above x.maker j with
      | true =>
        rw [hp] at N
        have HP := hide hp
        clear hp
        go_wp2_with (go_at_call 78; refine N.out.mono ?_; rintro e w2 ⟨rfl, hb2⟩)
        go_ret
        refine ⟨ret_i2 ?_, HB.out.trans (hb2.mono HB.out.size)⟩
        rw [HR.out, fidx_some hlt hno.out (by rw [← HJ.out]; exact HP.out)]
      | false =>
        have HY : Hid (∀ i ∈ o.take (k + 1), atN l x.above x.maker i = false) := hide (by
          rw [List.take_succ_eq_append_getElem hlt]
          intro p hq
          rcases List.mem_append.1 hq with c | c
          · exact hno.out p c
          · simp at c; subst c; rw [← HJ.out]; exact hp)
        rw [hp] at N
        clear hp
        go_wp2_with (go_at_call 78; refine N.out.mono ?_; rintro e w2 ⟨rfl, hb2⟩)
        refine ⟨⟨k + 1, by omega, by go_num, HY, HB.out.trans (hb2.mono HB.out.size)⟩, by simp [intOf]; omega⟩
    · obtain rfl : k = o.length := by omega
      have hall := hno.out
      rw [List.take_length] at hall
      have HA := hide hall
      clear hall
      go_wp2
      go_ret
      refine ⟨ret_i2 ?_, hbel⟩
      rw [HR.out, fidx_none HA.out]

/-- The order of all. -/
def ordL (l : List Am) : List Nat := ordK (pr l) l.length

set_option maxRecDepth 100000 in
set_option maxHeartbeats 4000000 in
theorem inOrder_any {w : World} {a : Option Addr} {cap : Nat} {l : List Am} (h : AmIn w a cap l) (hgd : goodQ l = true) :
    Calls Tryd.prog 55 #[.slice a l.length cap] w fun e w' => ∃ v, e = .returned v ∧ IOwn w' w.heap.size v (oI (ordL l)) ∧ Below w.heap.size w w' := by
  have hln := good_len hgd
  obtain ⟨w0, hw0⟩ : ∃ w0, w0 = w.alloc (.cells #[.slice a l.length cap] 23) := ⟨_, rfl⟩
  have hb0 : Below w.heap.size w w0 := by rw [hw0]; exact (Below.refl _ _).alloc (Nat.le_refl _) _
  have hh0 : w0.heap[w.heap.size]? = some (.cells #[.slice a l.length cap] 23) := by rw [hw0]; exact heap_alloc_new _ _
  have hs0 : w0.heap.size = w.heap.size + 1 := by rw [hw0]; simp
  have H := hide (h.later hb0)
  have HH := hide hh0
  have HB0 := hide hb0
  have HS0 := hide hs0
  have HG := hide hgd
  have k0 : w0.cell? ⟨w.heap.size, 0, none⟩ = some (.slice a l.length cap) := by rw [cell_of_row _ _ 0 _ _ (0, 0) hh0]; rfl
  clear h hb0 hh0 hgd hs0
  go_enter Tryd.func55, Tryd.ntmps55
  rw [hw0] at k0
  go_wp2
  rw [← hw0]
  clear hw0 k0
  go_loopw [3, 9] (fun v i wr => ∃ k : Nat, k ≤ l.length ∧ i = .int .i64 k ∧ ∃ v0, v0 = v ∧ Hid (IOwn wr w0.heap.size v0 (oI (ordK (pr l) k))) ∧ Below w0.heap.size w0 wr) (fun _ i _ => l.length - (intOf i).toNat)
  case atStart => exact ⟨0, by omega, rfl, _, rfl, hide (by rw [ordK_zero]; exact World.ownsRow_nil _ _ _ _), Below.refl _ _⟩
  case round =>
    obtain ⟨k, hk, rfl, v, hv0, HV, hbel⟩ := hrel
    subst hv0
    by_cases hlt : k < l.length
    · obtain ⟨g, rfl, hg, hc⟩ := (H.out.later hbel).ad (by intro c; rw [c] at hlt; simp at hlt)
      obtain ⟨x, hx⟩ : ∃ x, x = l[k] := ⟨_, rfl⟩
      have hca := hc.amat k hlt
      rw [← hx] at hca
      obtain ⟨c0, c1, c2, c3, c4, c5⟩ := hca
      obtain ⟨v1, hv1⟩ : ∃ w1, w1 = wr.alloc (.cells #[.int .i64 x.time, .int .i64 x.actor, .int .i64 x.above, .int .i64 x.maker, .string x.byte, .bool x.gone] 67) := ⟨_, rfl⟩
      have hbv : Below wr.heap.size wr v1 := by rw [hv1]; exact (Below.refl _ _).alloc (Nat.le_refl _) _
      have BX : BxA v1 wr.heap.size x := by rw [hv1]; exact BxA.new _ _
      have HB1 := hide (hbel.trans (hbv.mono hbel.size))
      have hp' : ∀ i, i < k → pr l i ≤ i := fun i hi => pr_le HG.out (by omega)
      have HOL := hide (ordK_len hp')
      obtain ⟨i, hi, hfi, hord⟩ := ord_step HG.out hlt
      rw [← hx] at hfi
      have N := hide (indexO_any (cap := cap) (hc.later hbv hg) (Nat.lt_of_lt_of_le hg hbv.size) (by omega) x w.heap.size wr.heap.size ((HB1.out.block w.heap.size (by have := HS0.out; omega)).trans HH.out) BX (own_below HV.out hbv) (fun j hj => by have := (ordK_mem hp').1 hj; omega) (by have := HOL.out; omega))
      have HV1 := hide (own_below HV.out hbv)
      have HI : Hid (i ≤ (ordK (pr l) k).length) := hide hi
      have HORD := hide hord
      obtain ⟨F, hF⟩ : ∃ F, F = fidx (atN l x.above x.maker) (ordK (pr l) k) := ⟨_, rfl⟩
      rw [← hF] at N hfi
      have hF2 : F = (i : Int) - 1 := by omega
      subst hF2
      have hlen : l.length ≤ 80 := hln
      have hik : i ≤ 80 := by have := HOL.out; omega
      have hwi : IntKind.i64.wrap ((i : Int) - 1 + 1) = (i : Int) := by rw [IntKind.wrap_i64]; omega
      have hwj : (i : Int) - 1 + 1 = (i : Int) := by omega
      clear hc hbel hbv hx hi hord hF hfi BX HV
      go_wp2_with fail
      rw [← hv1]
      clear hv1 c0 c1 c2 c3 c4 c5
      refine N.out.mono ?_
      rintro e v2 ⟨rfl, hv2⟩
      have HB2 := hide (HB1.out.trans (hv2.mono HB1.out.size))
      have HV2 := hide (own_below HV1.out hv2)
      clear hv2 N HV1
      go_wp2_with fail
      refine (insert_own (w := v2.alloc (.cells #[.int .i64 (k : Int)] 3)) (World.ownsRow.alloc HV2.out _) (by rw [oI_len]; have := HOL.out; omega) i (by rw [oI_len]; exact HI.out) (k : Int) v2.heap.size (heap_alloc_new v2 _) (fun y hy e => by have := (World.ownsRow.lt HV2.out y hy).2; omega) (by have := HB2.out.size; simp; omega)).mono ?_
      rintro e v4 ⟨v', rfl, ho4, hb4⟩
      have HV4 : Hid (IOwn v4 w0.heap.size v' (oI (ordK (pr l) (k + 1)))) := hide (by
        have e : oI ((ordK (pr l) k).take i ++ k :: (ordK (pr l) k).drop i) = (oI (ordK (pr l) k)).take i ++ (k : Int) :: (oI (ordK (pr l) k)).drop i := by simp [oI]
        rw [← HORD.out, e]
        exact ho4)
      have HB4 := hide ((HB2.out.alloc HB2.out.size (.cells #[.int .i64 (k : Int)] 3)).trans hb4)
      clear ho4 hb4
      go_wp2
      exact ⟨⟨k + 1, by omega, by go_num, v', rfl, HV4, HB4.out⟩, by simp [intOf]; omega⟩
    · obtain rfl : k = l.length := by omega
      have HB := hide hbel
      clear hbel
      go_wp2
      go_ret
      exact ⟨v, rfl, own_mono HV.out (by have := HS0.out; omega), HB0.out.trans (HB.out.mono HB0.out.size)⟩

def ordR (l : List Am) : List Int := if goodQ l then oI (ordL l) else []
theorem ordR_len (l : List Am) : (ordR l).length ≤ 1000000 := by
  unfold ordR
  by_cases h : goodQ l = true
  · rw [if_pos h, oI_len]
    unfold ordL
    rw [ordK_len (fun i hi => pr_le h hi)]
    have := good_len h
    omega
  · rw [if_neg h]; simp

set_option maxRecDepth 100000 in
set_option maxHeartbeats 2000000 in
theorem orderOfI {w : World} {a : Option Addr} {cap : Nat} {l : List Am} (h : SIn w a cap l) (hT : Tab w) :
    Calls Tryd.prog 22 #[.agg #[.slice a l.length cap]] w fun e w' => ∃ v, e = .returned (.tuple #[v, .bool (goodQ l)]) ∧ IOwn w' w.heap.size v (ordR l) ∧ Below w.heap.size w w' := by
  have hb1 : Below w.heap.size w (w.alloc (.cells #[.slice a l.length cap] 25)) := (Below.refl _ _).alloc (Nat.le_refl _) _
  have hk1 : CellR (w.alloc (.cells #[.slice a l.length cap] 25)) w.heap.size (.slice a l.length cap) := CellR.new _ _
  obtain ⟨w1, hw1⟩ : ∃ w1, w1 = w.alloc (.cells #[.slice a l.length cap] 25) := ⟨_, rfl⟩
  rw [← hw1] at hb1 hk1
  have HB1 := hide hb1
  have HK1 := hide hk1
  have H1 := hide (h.later hb1)
  have G := hide (goodSeqI (h.later hb1) (hT.below hb1))
  have k1 := hk1.cell
  clear h hT hb1 hk1
  cases hq : goodQ l with
  | false =>
    have HR : Hid (ordR l = []) := hide (by unfold ordR; rw [if_neg (by rw [hq]; simp)])
    rw [HR.out]
    rw [hq] at G
    clear hq
    go_enter Tryd.func22, Tryd.ntmps22
    rw [hw1] at k1
    go_wp2_with fail
    rw [← hw1] at k1 ⊢
    clear hw1 k1
    refine G.out.mono ?_
    rintro e w2 ⟨rfl, hb2⟩
    go_wp2
    go_ret2
    exact ⟨_, rfl, World.ownsRow_nil _ _ _ _, HB1.out.trans (hb2.mono HB1.out.size)⟩
  | true =>
    have HR : Hid (ordR l = oI (ordL l)) := hide (by unfold ordR; rw [if_pos hq])
    have O := hide (fun (w' : World) (hb : Below w1.heap.size w1 w') => inOrder_any (H1.out.later hb).inn hq)
    rw [HR.out]
    rw [hq] at G
    clear hq
    go_enter Tryd.func22, Tryd.ntmps22
    rw [hw1] at k1
    go_wp2_with fail
    rw [← hw1] at k1 ⊢
    clear hw1 k1
    refine G.out.mono ?_
    rintro e w2 ⟨rfl, hb2⟩
    have k2 := (HK1.out.later hb2).cell
    have HB2 := hide hb2
    clear hb2
    go_wp2_with fail
    refine (O.out _ HB2.out).mono ?_
    rintro e w3 ⟨v, rfl, hv, hb3⟩
    have HV := hide hv
    have HB3 := hide (HB2.out.trans (hb3.mono HB2.out.size))
    have HS := hide HB2.out.size
    have HS1 := hide HB1.out.size
    clear hv hb3 k2
    go_wp2
    go_ret2
    exact ⟨v, rfl, own_mono HV.out (Nat.le_trans HS1.out HS.out), HB1.out.trans (HB3.out.mono HB1.out.size)⟩
end Go.Proofs.YtnhooalibadeeaaDoor
