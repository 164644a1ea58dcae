/- The program's ReadOp. -/
import Derived.Test.YtmjehpigfkobeabDoorRdP
import Derived.Test.YtmjehpigfkobeabDoorOpSM
import Derived.Test.YtmjehpigfkobeabDoorOpW36
import Derived.WalkSmall
set_option linter.unusedVariables false
namespace Go.Proofs.YtmjehpigfkobeabDoor
open Go.RowKit Go.Shelf
open Doc1

attribute [local go_sem] Oper.semAt_some

theorem ext_mid (s : ByteArray) (b k : Nat) (hb : b ≤ k) : (s.extract b k).data.toList = (s.data.toList.take k).drop b := by
  rw [Lib.extract_eq, List.drop_take]
def SzO (o : List Pt) : Prop := ∀ i (hi : i < o.length), o[i].put.size ≤ 1048576 ∧ o[i].drop.size ≤ 1048576
theorem SzO.snoc {o : List Pt} {p : Pt} (h : SzO o) (hp : p.put.size ≤ 1048576 ∧ p.drop.size ≤ 1048576) : SzO (o ++ [p]) := by
  intro i hi
  by_cases c : i < o.length
  · rw [List.getElem_append_left c]; exact h i c
  · have : i = o.length := by simp at hi; omega
    subst this
    rw [List.getElem_append_right (Nat.le_refl _)]
    simpa using hp
/-- How far the program has read, in the world. -/
structure RW (w : World) (s : ByteArray) (v : Value) (b k : Nat) (o : List Pt) (wr : World) : Prop where
  pr : PRd s b k o
  own : POwn wr (w.heap.size + 1) v o
  it : wr.heap[w.heap.size]? = some (.stringIter s k)
  bel : Below w.heap.size w wr
  few : o.length ≤ 60
  sz : SzO o

set_option maxRecDepth 100000 in
set_option maxHeartbeats 8000000 in
theorem readOpI (s : ByteArray) (w : World) (hs : s.size ≤ 1048576) (hT : Tab w) :
    Calls Tryd.prog 28 #[.string s] w fun e w' => ∃ v, e = .returned (.tuple #[v, .bool (rdO s.data.toList).2]) ∧ POwn w' w.heap.size v (rdO s.data.toList).1 ∧ Below w.heap.size w w' := by
  obtain ⟨u0, hu0, hz0, hz1, hz2⟩ := info_parts Tryd.infoPart
  have HT := hide hT
  clear hT
  go_enter Tryd.func28, Tryd.ntmps28
  go_wp2
  go_loopw [4, 5] (fun v0 x wr => ∃ v b k o, v = v0 ∧ x = .int .i64 (b : Nat) ∧ Hid (RW w s v b k o wr)) (fun _ _ wr => s.size - wr.iterPos w.heap.size)
  case atStart =>
    refine ⟨_, 0, 0, [], rfl, rfl, hide ⟨PRd.start s, World.ownsRow_nil _ _ _ _, World.iter_heap w s 0, (Below.refl _ w).alloc (Nat.le_refl _) _, by simp, fun i hi => by simp at hi⟩⟩
  case round =>
    obtain ⟨v, b, k, o, rfl, rfl, H⟩ := hrel
    have hit := H.out.it
    have hbk := H.out.pr.hb
    have hks := H.out.pr.hk
    by_cases hp : k < s.size
    · have hnx : ∀ ty, (Instr.next (.pointer (some ⟨w.heap.size, 0, none⟩)) true ty).run Tryd.prog wr = _ := fun ty => Lib.run_next_any_at wr w.heap.size s k ty hit hp
      have hru := rune_is s k hp
      have hle := decode_le s k
      obtain ⟨⟨z, y⟩, hde⟩ : ∃ p, Utf8.decode s k = p := ⟨_, rfl⟩
      rw [hde] at hru hle
      simp only [hde] at hnx
      simp only [Prod.mk.injEq] at hru hle
      by_cases h59 : z = 59
      · subst h59
        have hc : s[k] = 59 := by
          rcases hru with ⟨h1, h2, h3⟩ | ⟨h1, h2, h3⟩
          · exact UInt8.toNat_inj.1 h2.symm
          · omega
        have hy : y = 1 := by
          rcases hru with ⟨h1, h2, h3⟩ | ⟨h1, h2, h3⟩
          · exact h3
          · omega
        subst hy
        clear hru hde
        obtain ⟨X, hX⟩ : ∃ X, s.extract b k = X := ⟨_, rfl⟩
        have hXl : X.data.toList = (s.data.toList.take k).drop b := by rw [← hX]; exact ext_mid s b k hbk
        have hXs : X.size ≤ 1048576 := by rw [szB, hXl, List.length_drop, List.length_take]; omega
        have RP := hide (fun w' => readPart_any X w' hXs)
        have hps : (pQ X.data.toList).put.size ≤ 1048576 ∧ (pQ X.data.toList).drop.size ≤ 1048576 := by
          have h1 := pQ_size X.data.toList
          rw [← szB] at h1
          omega
        have HI : Hid (POwn (wr.iterAt w.heap.size s (k + 1)) (w.heap.size + 1) v o) := hide (ownsRow_iterAt H.out.own (by omega) s _)
        have hit1 := Lib.iterAt_heap wr w.heap.size s k (k + 1) hit
        have HIT := hide hit1
        have HBL := hide (Lib.below_iterAt H.out.bel (Nat.le_refl w.heap.size) s (k + 1))
        have hszi := Lib.iterAt_size wr w.heap.size s (k + 1)
        have hlt1 := (Array.getElem?_eq_some_iff.1 hit1).1
        clear hit1
        obtain ⟨Wi, hWi⟩ : ∃ Wi, wr.iterAt w.heap.size s (k + 1) = Wi := ⟨_, rfl⟩
        rw [hWi] at hnx HI HIT HBL hszi hlt1
        obtain ⟨av, cv, rfl, hvc, hvm⟩ := own_shp HI.out
        cases hx : pP X.data.toList with
        | none =>
          have hr := hide (H.out.pr.fail hp hc (by rw [← hXl]; exact hx))
          have hsome : (pP X.data.toList).isSome = false := by rw [hx]; rfl
          unfold PrPost at RP
          rw [hsome] at RP
          generalize pQ X.data.toList = q at *
          unfold ptV at RP
          replace RP := hide RP.out
          clear hx hsome hXl hc
          go_wp2_with (go_at_call 58; refine (RP.out _).mono ?_; rintro e w2 ⟨rfl, hb2⟩; have HB2 := hide hb2; clear hb2)
          go_ret2
          rw [hr.out]
          exact ⟨_, rfl, World.ownsRow_nil _ _ _ _, (HBL.out.trans (HB2.out.mono (by omega))).alloc (by have := HB2.out.size; omega) _⟩
        | some p =>
          have hsome : (pP X.data.toList).isSome = true := by rw [hx]; rfl
          have hq : pQ X.data.toList = p := by unfold pQ; rw [hx]; rfl
          by_cases ho : o.length = 60
          · have hr := hide (H.out.pr.long hp hc ho)
            unfold PrPost at RP
            rw [hsome] at RP
            generalize pQ X.data.toList = q at *
            unfold ptV at RP
            replace RP := hide RP.out
            clear hx hsome hXl hc
            go_wp2_with (go_at_call 58; refine (RP.out _).mono ?_; rintro e w2 ⟨rfl, hb2⟩; have HB2 := hide hb2; clear hb2)
            go_ret2
            rw [hr.out]
            exact ⟨_, rfl, World.ownsRow_nil _ _ _ _, (HBL.out.trans (HB2.out.mono (by omega))).alloc (by have := HB2.out.size; omega) _⟩
          · have hst := hide (H.out.pr.step hp hc (by rw [← hXl]; exact hx))
            have hfew := H.out.few
            unfold PrPost at RP
            rw [hsome, hq] at RP
            rw [hq] at hps
            unfold ptV at RP
            replace RP := hide RP.out
            clear hx hsome hXl hc hq
            go_wp2_with (first
              | (go_at_call 58; refine (RP.out _).mono ?_; rintro e w2 ⟨rfl, hb2⟩; have HO2 := hide (own_below HI.out hb2); have HIT2 := hide ((hb2.block w.heap.size hlt1).trans HIT.out); have HBL2 := hide (HBL.out.trans (hb2.mono (by omega))); have hs2 := hb2.size; clear hb2)
              | (at_builtin; refine wpList_append_own _ rfl _ _ 22 rfl (w.heap.size + 1) 83 u0 (.agg #[.int .i64 0, .string ⟨#[]⟩, .string ⟨#[]⟩]) 3 40 Tryd.underlying22 hu0 hz0 hz1 hz2 rfl (by decide) _ _ _ rfl ((HO2.out.alloc _).alloc _) ⟨w2.heap.size + 1, 0, none⟩ 1 1 [.int .i64 p.keep, .string p.put, .string p.drop] rfl rfl ?c1 ?c2 ?c3 ?c4 ?c5 ?_))
            case c1 => exact cell3_at _ _ (by simp) _ _ _ _
            case c2 => intro u hu; simp at hu; rcases hu with rfl | rfl | rfl <;> rfl
            case c3 => unfold maxLen; omega
            case c4 => omega
            case c5 => simp; omega
            intro v3 w3 hown3 hgrow3 _
            have hlow := fun b hb' => (HO2.out.lt b hb').1
            have hit3 : w3.heap[w.heap.size]? = some (.stringIter s (k + 1)) := by
              refine (hgrow3.block w.heap.size (by simp; omega) (fun c => ?_)).trans ?_
              · have := hlow _ c.symm; omega
              · rw [Below.heap_alloc _ _ _ (by simp; omega), Below.heap_alloc _ _ _ (by omega)]; exact HIT2.out
            have hbel3 := ((HBL2.out.alloc (by omega) (.cells #[.int .i64 p.keep, .string p.put, .string p.drop] 83)).alloc (by simp; omega) (.cells #[.int .i64 p.keep, .string p.put, .string p.drop] 83)).grown hgrow3 (by simp; omega) (fun b hb' => by have := hlow b hb'; omega)
            have HN : Hid (RW w s v3 (k + 1) (k + 1) (o ++ [p]) w3) := hide ⟨hst.out, POwn.app hown3, hit3, hbel3, by simp; omega, H.out.sz.snoc hps⟩
            clear hown3 hgrow3 hlow hit3 hbel3
            go_wp2
            go_roundw
            case rel => exact ⟨v3, k + 1, k + 1, o ++ [p], rfl, by go_num, HN⟩
            case measure =>
              simp only [World.iterPos, HN.out.it, hit]
              omega
      · have hy : 1 ≤ y ∧ k + y ≤ s.size ∧ ∀ j (hj : j < s.size), k ≤ j → j < k + y → s[j] ≠ 59 := by
          rcases hru with ⟨h1, h2, h3⟩ | ⟨h1, h2, h3, h4, h5⟩
          · subst h3
            refine ⟨Nat.le_refl _, by omega, fun j hj j1 j2 e => ?_⟩
            obtain rfl : j = k := by omega
            rw [e] at h2
            exact h59 (h2.trans rfl)
          · refine ⟨h3, h4, fun j hj j1 j2 e => ?_⟩
            have := h5 j hj j1 j2
            rw [e] at this
            exact absurd this (by decide)
        obtain ⟨y1, y2, y3⟩ := hy
        have hq : ((z : Int) != 59) = true := by simp; omega
        have HN : Hid (RW w s v b (k + y) o (wr.iterAt w.heap.size s (k + y))) := hide ⟨H.out.pr.skip y y2 y3, ownsRow_iterAt H.out.own (by omega) s _, Lib.iterAt_heap wr w.heap.size s k (k + y) hit, Lib.below_iterAt H.out.bel (Nat.le_refl _) s _, H.out.few, H.out.sz⟩
        clear hru y3 hde
        go_wp2
        go_roundw
        case rel => exact ⟨v, b, k + y, o, rfl, rfl, HN⟩
        case measure =>
          simp only [World.iterPos, HN.out.it, hit]
          omega
    · have hnx : ∀ ty, (Instr.next (.pointer (some ⟨w.heap.size, 0, none⟩)) true ty).run Tryd.prog wr = _ := fun ty => Lib.run_next_end_at wr w.heap.size s k ty hit hp
      obtain rfl : k = s.size := by omega
      by_cases hbs : b < s.size
      · have hr := hide (H.out.pr.rest hbs)
        have HB := hide H.out.bel
        go_wp2
        go_ret2
        rw [hr.out]
        exact ⟨_, rfl, World.ownsRow_nil _ _ _ _, HB.out⟩
      · obtain rfl : b = s.size := by omega
        have hr0 := H.out.pr.done
        have GO := goodOpI_own H.out.own (HT.out.below H.out.bel) H.out.sz (by have := H.out.few; omega)
        have HB := hide H.out.bel
        have HO := hide H.out.own
        cases hg : goodO o with
        | true =>
          rw [hg] at GO hr0
          rw [if_pos rfl] at hr0
          have hr := hide hr0
          replace GO := hide GO
          clear hr0
          obtain ⟨av, cv, rfl, -, -⟩ := own_shp HO.out
          go_wp2_with (go_at_call 59; refine GO.out.mono ?_; rintro e w2 ⟨rfl, hb2⟩)
          go_ret2
          rw [hr.out]
          exact ⟨_, rfl, own_mono (own_below HO.out hb2) (by omega), HB.out.trans (hb2.mono HB.out.size)⟩
        | false =>
          rw [hg] at GO hr0
          rw [if_neg (by simp)] at hr0
          have hr := hide hr0
          replace GO := hide GO
          clear hr0
          obtain ⟨av, cv, rfl, -, -⟩ := own_shp HO.out
          go_wp2_with (go_at_call 59; refine GO.out.mono ?_; rintro e w2 ⟨rfl, hb2⟩)
          go_ret2
          rw [hr.out]
          exact ⟨_, rfl, World.ownsRow_nil _ _ _ _, HB.out.trans (hb2.mono HB.out.size)⟩

end Go.Proofs.YtmjehpigfkobeabDoor
