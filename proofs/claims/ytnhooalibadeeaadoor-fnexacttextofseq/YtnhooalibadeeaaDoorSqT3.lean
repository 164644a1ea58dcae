/- TextOfSeq of the program and of the model. -/
import Derived.Test.YtnhooalibadeeaaDoorSqT2
import Derived.Test.YtnhooalibadeeaaDoorSqW5
import Derived.Test.YtnhooalibadeeaaDoorSqS2
import Derived.Test.YtnhooalibadeeaaDoorShelf
set_option linter.unusedVariables false
namespace Go.Proofs.YtnhooalibadeeaaDoor
open Go.RowKit
open Doc1

/-- Between two rounds: what the builder holds, and what has stayed. -/
structure TI (l : List Am) (o : List Nat) (b : Nat) (w : World) (k : Nat) (v p : Value) (wr : World) : Prop where
  bd : Bdx b b v p (byt (txL l (o.take k))) wr
  ps : p = .pointer none ∨ p = BdSelf b
  sz : w.heap.size ≤ wr.heap.size
  st : ∀ j, j < w.heap.size → j ≠ b → wr.heap[j]? = w.heap[j]?
  ob : ∀ x, v.ownBlock = some x → w.heap.size ≤ x
  bel : Below b w wr
theorem TI.next {l : List Am} {o : List Nat} {b : Nat} {w : World} {k : Nat} {v p : Value} {wr : World} (h : TI l o b w k v p wr) (hk : k < o.length) (hj : o[k] < l.length) {v' : Value} {w' : World}
    (h1 : Bdx b b v' (BdSelf b) (byt (txL l (o.take k)) ++ byt l[o[k]].byte.data.toList) w') (h2 : Below b wr w') (h3 : Stay b v wr w') (h4 : v'.ownBlock = v.ownBlock ∨ ∀ x, v'.ownBlock = some x → wr.heap.size ≤ x) : TI l o b w (k + 1) v' (BdSelf b) w' where
  bd := by rw [txL_take hk hj]; unfold byt at h1 ⊢; rw [List.map_append]; exact h1
  ps := .inr rfl
  sz := Nat.le_trans h.sz h3.1
  st := fun j hj hb => (h3.2 j (Nat.lt_of_lt_of_le hj h.sz) hb (fun e => by have := h.ob j e; omega)).trans (h.st j hj hb)
  ob := fun x hx => by
    rcases h4 with c | c
    · exact h.ob x (by rw [← c]; exact hx)
    · exact Nat.le_trans h.sz (c x hx)
  bel := h.bel.trans h2

set_option maxRecDepth 100000 in
set_option maxHeartbeats 2000000 in
theorem textOfSeqI {w : World} {a : Option Addr} {cap : Nat} {l : List Am} (h : SIn w a cap l) (hT : Tab w) :
    Calls Tryd.prog 19 #[.agg #[.slice a l.length cap]] w fun e w' => e = .returned (.tuple #[.string (tsR l), .bool (goodQ l)]) ∧ Below w.heap.size w w' := by
  have hb1 : Below w.heap.size w (w.alloc (.cells #[.slice a l.length cap] 25)) := (Below.refl _ _).alloc (Nat.le_refl _) _
  have hk1 : CellR (w.alloc (.cells #[.slice a l.length cap] 25)) w.heap.size (.slice a l.length cap) := CellR.new _ _
  obtain ⟨w1, hw1⟩ : ∃ w1, w1 = w.alloc (.cells #[.slice a l.length cap] 25) := ⟨_, rfl⟩
  rw [← hw1] at hb1 hk1
  have HB1 := hide hb1
  have HK1 := hide hk1
  have H1 := hide (h.later hb1)
  have G := hide (goodSeqI (h.later hb1) (hT.below hb1))
  have k1 := hk1.cell
  clear h hT hb1 hk1
  cases hq : goodQ l with
  | false =>
    have HR : Hid (tsR l = ⟨#[]⟩) := hide (by unfold tsR; rw [if_neg (by rw [hq]; simp)])
    rw [HR.out]
    rw [hq] at G
    clear hq
    go_enter Tryd.func19, Tryd.ntmps19
    rw [hw1] at k1
    go_wp2_with fail
    rw [← hw1] at k1 ⊢
    clear hw1 k1
    refine G.out.mono ?_
    rintro e w2 ⟨rfl, hb2⟩
    go_wp2
    go_ret2
    exact ⟨rfl, HB1.out.trans (hb2.mono HB1.out.size)⟩
  | true =>
    have HR : Hid (tsR l = ⟨(txL l (shL l)).toArray⟩) := hide (by unfold tsR; rw [if_pos hq])
    have O := hide (fun (w' : World) (hb : Below w1.heap.size w1 w') => shownOf_any (H1.out.later hb).inn hq)
    have HM : Hid (∀ j ∈ shL l, j < l.length) := hide (fun j hj => ordL_mem hq j (List.mem_filter.1 hj).1)
    have HO1 := hide (good_one hq)
    have hol : (shL l).length ≤ 80 := by have h1 := shw_le l (ordL l); have h2 := ordL_len hq; have h3 := good_len hq; unfold shL; omega
    have hln := good_len hq
    rw [HR.out]
    rw [hq] at G
    obtain ⟨o, ho⟩ : ∃ o, o = shL l := ⟨_, rfl⟩
    rw [← ho] at O HM hol ⊢
    clear hq ho HR
    go_enter Tryd.func19, Tryd.ntmps19
    rw [hw1] at k1
    go_wp2_with fail
    rw [← hw1] at k1 ⊢
    clear hw1 k1
    refine G.out.mono ?_
    rintro e w2 ⟨rfl, hb2⟩
    obtain ⟨w3, hw3⟩ : ∃ w3, w3 = w2.alloc (.cells #[.pointer none, .slice none 0 0] 88) := ⟨_, rfl⟩
    have hb3 : Below w2.heap.size w2 w3 := by rw [hw3]; exact (Below.refl _ _).alloc (Nat.le_refl _) _
    have hat : w3.heap[w2.heap.size]? = some (.cells #[.pointer none, .slice none 0 0] 88 (0, 0)) := by rw [hw3]; exact heap_alloc_new _ _
    have hs3 : w3.heap.size = w2.heap.size + 1 := by rw [hw3]; simp
    have HS12 := hide hb2.size
    have HB3 := hide (hb2.trans (hb3.mono hb2.size))
    have HA3 := hide hat
    have HS3 := hide hs3
    have k2 := (HK1.out.later HB3.out).cell
    clear hb2 hb3 hat hs3
    rw [hw3] at k2
    go_wp2_with fail
    rw [← hw3] at k2 ⊢
    clear hw3
    refine (O.out _ HB3.out).mono ?_
    rintro e w4 ⟨v, rfl, hv, hb4⟩
    have HB4 := hide (HB3.out.trans (hb4.mono HB3.out.size))
    have HV : Hid (∀ k (hk : k < o.length), ∃ gv cv, v = .slice (some ⟨gv, 0, none⟩) o.length cv ∧ w2.heap.size < gv ∧ gv < w4.heap.size ∧ w4.cell? ⟨gv, k, none⟩ = some (.int .i64 ((o[k] : Nat) : Int))) := hide (fun k hk => by
      obtain ⟨gv, cv, e, -, -, h2, h3, h4, -⟩ := own_cat hv (by rw [oI_len]; omega)
      rw [oI_len] at e
      have := HS3.out
      refine ⟨gv, cv, e, by omega, h3, h4 k _ ?_⟩
      rw [ints_at (oI o) (by rw [oI_len]; exact hk), oI_at])
    have R0 : Hid (TI l o w2.heap.size w4 0 (.slice none 0 0) (.pointer none) w4) := hide {
      bd := ⟨Nat.le_refl _, (hb4.block _ (by have := HS3.out; omega)).trans HA3.out, World.ownsRow_nil _ _ _ _, by simp [Value.ownBlock]⟩
      ps := .inl rfl
      sz := Nat.le_refl _
      st := fun _ _ _ => rfl
      ob := fun x hx => by simp [Value.ownBlock] at hx
      bel := Below.refl _ _ }
    obtain ⟨av, cv, rfl, hcv, hmv⟩ := own_shp hv
    rw [oI_len] at *
    have HS4 := hide hb4.size
    clear hv hb4 k2 O HA3
    go_wp2
    go_loopw [14] (fun i wr => ∃ k : Nat, k ≤ o.length ∧ i = .int .i64 k ∧ ∃ v p, Hid (TI l o w2.heap.size w4 k v p wr)) (fun i _ => o.length - (intOf i).toNat)
    case atStart => exact ⟨0, by omega, rfl, _, _, R0⟩
    case round =>
      obtain ⟨k, hk, rfl, v, p, HT⟩ := hrel
      clear R0
      by_cases hlt : k < o.length
      · obtain ⟨gv, cv2, e1, hgb, hgl, c0⟩ := HV.out k hlt
        cases e1
        have c1 : wr.cell? ⟨gv, k, none⟩ = some (.int .i64 ((o[k] : Nat) : Int)) := (World.cell?_of_block (a := ⟨gv, k, none⟩) (HT.out.st gv hgl (by omega))).trans c0
        have hjl := HM.out _ (List.getElem_mem hlt)
        have HBW := hide (HB4.out.trans (HT.out.bel.mono HS12.out))
        obtain ⟨g, rfl, hg, hc⟩ := (H1.out.later HBW.out).inn.ad (by intro c; rw [c] at hjl; simp at hjl)
        have k1 := (HK1.out.later HBW.out).cell
        have h1 := HO1.out _ hjl
        have hbz := HT.out.bd.lt
        have PT := hide (bld_puts l[o[k]].byte HT.out.bd HT.out.ps (by rw [byt_len]; have := txL_len HO1.out (o.take k); rw [List.length_take] at this; omega) (Nat.le_of_lt hbz))
        have NX := hide (fun (v' : Value) (w' : World) h1 h2 h3 h4 => HT.out.next hlt hjl (v' := v') (w' := w') h1 h2 h3 h4)
        obtain ⟨j, hj⟩ : ∃ j, j = o[k] := ⟨_, rfl⟩
        have c5 := (hc.amat _ hjl).2.2.2.2.1
        obtain ⟨x, hx⟩ : ∃ x, x = l[o[k]].byte := ⟨_, rfl⟩
        rw [← hx] at c5 h1 PT NX
        rw [← hj] at c1 c5
        have qj1 : (0 : Int) ≤ (j : Int) := by omega
        have qj2 : (j : Int) < (l.length : Int) := by rw [hj]; omega
        clear c0 hc HT hj hx
        go_wp2_with (go_at_call 53; refine PT.out.mono ?_; rintro e w5 ⟨rfl, v5, q1, q2, q3, q4⟩; have N5 := hide (NX.out _ _ q1 q2 q3 q4); clear q1 q2 q3 q4)
        exact ⟨⟨k + 1, by omega, by go_num, v5, _, N5⟩, by simp [intOf]; omega⟩
      · obtain rfl : k = o.length := by omega
        have hbd := HT.out.bd.bd
        rw [List.take_length] at hbd
        have P := hide (Tryd.Builder_String_any w2.heap.size w2.heap.size (txL l o) wr (by
          rcases HT.out.ps with rfl | rfl
          · exact .inl hbd
          · exact .inr hbd) (Nat.le_of_lt HT.out.bd.lt))
        have HBW := hide (HB4.out.trans (HT.out.bel.mono HS12.out))
        clear hbd HT
        go_wp2_with (go_at_call 54; refine P.out.mono ?_; rintro e w5 ⟨rfl, hw5⟩; have HW5 := hide hw5; clear hw5)
        go_ret2
        exact ⟨rfl, HB1.out.trans ((HBW.out.trans (HW5.out.mono HS12.out)).mono HB1.out.size)⟩

set_option maxRecDepth 100000 in
set_option maxHeartbeats 2000000 in
theorem textOfSeqS {w : World} {a : Option Addr} {cap : Nat} {l : List Am} (h : SIn w a cap l) :
    Calls Tryd.prog 29 #[.agg #[.slice a l.length cap]] w fun e w' => e = .returned (.tuple #[.string (tsR l), .bool (goodQ l)]) ∧ Below w.heap.size w w' := by
  have hb1 : Below w.heap.size w (w.alloc (.cells #[.slice a l.length cap] 25)) := (Below.refl _ _).alloc (Nat.le_refl _) _
  have hk1 : CellR (w.alloc (.cells #[.slice a l.length cap] 25)) w.heap.size (.slice a l.length cap) := CellR.new _ _
  obtain ⟨w1, hw1⟩ : ∃ w1, w1 = w.alloc (.cells #[.slice a l.length cap] 25) := ⟨_, rfl⟩
  rw [← hw1] at hb1 hk1
  have HB1 := hide hb1
  have HK1 := hide hk1
  have H1 := hide (h.later hb1)
  have G := hide (goodSeqS (h.later hb1))
  have k1 := hk1.cell
  clear h hb1 hk1
  cases hq : goodQ l with
  | false =>
    have HR : Hid (tsR l = ⟨#[]⟩) := hide (by unfold tsR; rw [if_neg (by rw [hq]; simp)])
    rw [HR.out]
    rw [hq] at G
    clear hq
    go_enter Tryd.func29, Tryd.ntmps29
    rw [hw1] at k1
    go_wp2_with fail
    rw [← hw1] at k1 ⊢
    clear hw1 k1
    refine G.out.mono ?_
    rintro e w2 ⟨rfl, hb2⟩
    go_wp2
    go_ret2
    exact ⟨rfl, HB1.out.trans (hb2.mono HB1.out.size)⟩
  | true =>
    have HR : Hid (tsR l = ⟨(txL l (shL l)).toArray⟩) := hide (by unfold tsR; rw [if_pos hq])
    have O := hide (fun (w' : World) (hb : Below w1.heap.size w1 w') => l17Shown_any (H1.out.later hb).inn hq)
    have HM : Hid (∀ j ∈ shL l, j < l.length) := hide (fun j hj => ordL_mem hq j (List.mem_filter.1 hj).1)
    have HO1 := hide (good_one hq)
    have hol : (shL l).length ≤ 80 := by have h1 := shw_le l (ordL l); have h2 := ordL_len hq; have h3 := good_len hq; unfold shL; omega
    have hln := good_len hq
    rw [HR.out]
    rw [hq] at G
    obtain ⟨o, ho⟩ : ∃ o, o = shL l := ⟨_, rfl⟩
    rw [← ho] at O HM hol ⊢
    clear hq ho HR
    go_enter Tryd.func29, Tryd.ntmps29
    rw [hw1] at k1
    go_wp2_with fail
    rw [← hw1] at k1 ⊢
    clear hw1 k1
    refine G.out.mono ?_
    rintro e w2 ⟨rfl, hb2⟩
    have k2 := (HK1.out.later hb2).cell
    have HB2 := hide hb2
    clear hb2
    go_wp2_with fail
    refine (O.out _ HB2.out).mono ?_
    rintro e w4 ⟨v, rfl, hv, hb4⟩
    have HB4 := hide (HB2.out.trans (hb4.mono HB2.out.size))
    obtain ⟨av, cv, rfl, hcv, hmv, hcl⟩ := iown_cells hv
    have HV := hide hcl
    unfold maxLen at hmv
    clear hv hb4 k2 O hcl
    go_wp2
    go_loopw [4, 13] (fun u i wr => ∃ (k : Nat) (t : ByteArray), k ≤ o.length ∧ i = .int .i64 k ∧ u = .string t ∧ t.size ≤ 80 ∧ Hid (t = ⟨(txL l (o.take k)).toArray⟩) ∧ Below w4.heap.size w4 wr) (fun _ i _ => o.length - (intOf i).toNat)
    case atStart => exact ⟨0, ⟨#[]⟩, by omega, rfl, rfl, Nat.zero_le _, hide rfl, Below.refl _ _⟩
    case round =>
      obtain ⟨k, t, hk, rfl, rfl, htz, HT, hbel⟩ := hrel
      by_cases hlt : k < o.length
      · obtain ⟨gv, rfl, c0⟩ := HV.out wr hbel k hlt
        have hjl := HM.out _ (List.getElem_mem hlt)
        have HBW := hide (HB4.out.trans (hbel.mono HB4.out.size))
        obtain ⟨g, rfl, hg, hc⟩ := (H1.out.later HBW.out).inn.ad (by intro c; rw [c] at hjl; simp at hjl)
        have k1 := (HK1.out.later HBW.out).cell
        have h1 := HO1.out _ hjl
        have HN : Hid (t ++ l[o[k]].byte = ⟨(txL l (o.take (k + 1))).toArray⟩ ∧ (t ++ l[o[k]].byte).size ≤ 80) := hide (by
          have e : t ++ l[o[k]].byte = ⟨(txL l (o.take (k + 1))).toArray⟩ := by
            rw [txL_take hlt hjl, HT.out]
            exact Doc1.ba_eq (by rw [apdB])
          refine ⟨e, ?_⟩
          rw [e]
          have := txL_len HO1.out (o.take (k + 1))
          rw [List.length_take] at this
          show (txL l (o.take (k + 1))).toArray.size ≤ 80
          rw [List.size_toArray]
          omega)
        obtain ⟨j, hj⟩ : ∃ j, j = o[k] := ⟨_, rfl⟩
        have c5 := (hc.amat _ hjl).2.2.2.2.1
        obtain ⟨x, hx⟩ : ∃ x, x = l[o[k]].byte := ⟨_, rfl⟩
        rw [← hx] at c5 h1 HN
        rw [← hj] at c0 c5
        have qj1 : (0 : Int) ≤ (j : Int) := by omega
        have qj2 : (j : Int) < (l.length : Int) := by rw [hj]; omega
        have HBE := hide hbel
        clear hc hj hx hbel
        go_wp2
        exact ⟨⟨k + 1, t ++ x, by omega, by go_num, rfl, HN.out.2, hide HN.out.1, HBE.out⟩, by simp [intOf]; omega⟩
      · obtain rfl : k = o.length := by omega
        have HE : Hid (t = ⟨(txL l o).toArray⟩) := hide (by have := HT.out; rw [List.take_length] at this; exact this)
        have HBW := hide (HB4.out.trans (hbel.mono HB4.out.size))
        clear hbel HT
        go_wp2
        go_ret2
        exact ⟨by rw [HE.out] <;> rfl, HB1.out.trans (HBW.out.mono HB1.out.size)⟩
end Go.Proofs.YtnhooalibadeeaaDoor
