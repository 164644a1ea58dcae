/- The drawings of a text and of a change of it. -/
import Derived.Test.YtknilofnelhgmaaDoorDraw4
import Derived.Test.YtknilofnelhgmaaDoorOpOn2
namespace Go.Proofs.YtknilofnelhgmaaDoor
open Go.RowKit
open Doc1

set_option maxRecDepth 100000 in
set_option maxHeartbeats 2000000 in
theorem plainText_any (g : Nat) (C : Value) (M : Nat) (w : World) (hcur : CurAt g C M w) (hco : CodeAt g C w) (hM : M ≤ 80000000) :
    Calls Tryd.prog 46 #[.pointer (some ⟨g, 0, none⟩)] w (TextPost g C (M + 500000) 300 w) := by
  go_enter Tryd.func46, Tryd.ntmps46
  go_wp2_with fail
  refine (doc_any g C M w hcur hco hM).mono ?_
  rintro e w1 ⟨s, rfl, hs, hc1, hg1⟩
  have G := hide (goodTextS_any s w1 (by omega))
  cases hgd : good s.data.toList with
  | false =>
    rw [hgd] at G
    clear hgd
    go_wp2_with fail
    refine G.out.mono ?_
    rintro e w2 ⟨rfl, hw⟩
    replace hw := hw.symm
    subst hw
    go_wp2
    go_ret
    exact ⟨⟨#[116, 101, 120, 116]⟩, rfl, by decide, hc1.mono (by omega), hg1⟩
  | true =>
    rw [hgd] at G
    have hl := good_len hgd
    have e := sz_list s
    have hs3 : s.size ≤ 300 := by omega
    clear hgd hl e
    go_wp2_with fail
    refine G.out.mono ?_
    rintro e w2 ⟨rfl, hw⟩
    replace hw := hw.symm
    subst hw
    by_cases h40 : (40 : Int) < (s.size : Int)
    · go_wp2_with fail
      refine (one_any g C _ 20 w1 hc1 (hco.grown hg1) (by omega)).mono ?_
      rintro e w2 ⟨b, rfl, hc2, hg2⟩
      cases b with
      | true =>
        go_wp2
        go_ret
        exact ⟨s, rfl, hs3, hc2.mono (by omega), hg1.trans hg2⟩
      | false =>
        go_wp2
        go_ret
        exact ⟨_, rfl, by rw [ByteArray.size_extract]; omega, hc2.mono (by omega), hg1.trans hg2⟩
    · go_wp2
      go_ret
      exact ⟨s, rfl, hs3, hc1.mono (by omega), hg1⟩

/-- What the drawing of a change and a text leaves. -/
def OpPost (w : World) (e : Ending) (w' : World) : Prop := ∃ v L s, e = .returned (.tuple #[v, .string s]) ∧ POwn w' w.heap.size v L ∧ L.length ≤ 2586186935075 ∧ (∀ p ∈ L, smP p) ∧ s.size ≤ 303 ∧ Below w.heap.size w w'

set_option maxRecDepth 100000 in
set_option maxHeartbeats 2000000 in
theorem drawApplyOp_any (C : Value) (w : World) (hco : CodeAt w.heap.size C w) (hC : codeLen C ≤ 1048576) :
    Calls Tryd.prog 9 #[C] w (OpPost w) := by
  have hcur := cur_new w C
  have hco1 := hco.grown (World.grownBy_alloc w (.cells #[C, .int .i64 0, .int .u64 0] 74) (some w.heap.size))
  obtain ⟨a, len, cap, rfl⟩ := hco.shape
  clear hco
  go_enter Tryd.func9, Tryd.ntmps9
  go_wp2_with fail
  refine (plainText_any _ _ _ _ hcur hco1 (by omega)).mono ?_
  rintro e w1 ⟨s, rfl, hs, hc1, hg1⟩
  have hco2 := hco1.grown hg1
  clear hcur hco1
  go_wp2_with fail
  refine (opOn_any _ _ _ s w1 hc1 hco2 hC (by omega) hs).mono ?_
  rintro e w2 ⟨v, L, rfl, hown, hL, hsm, hc2, hg2⟩
  have hco3 := hco2.grown hg2
  have hg12 := hg1.trans hg2
  have hs1 := hg1.size
  simp only [World.size_alloc] at hs1
  have HSM := hide hsm
  clear hsm hc1 hco2 hg1 hg2
  have hnb : ∀ b, v.ownBlock = some b → w.heap.size < b := fun b hb => by have := (hown.lt b hb).1; omega
  go_wp2_with fail
  refine (one_any _ _ _ 6 w2 hc2 hco3 (by omega)).mono ?_
  rintro e w3 ⟨b, rfl, hc3, hg3⟩
  have hco4 := hco3.grown hg3
  have hg13 := hg12.trans hg3
  have hown3 := own_grown hown hg3 (fun b hb e => by have := hnb b hb; have := Option.some.inj e; omega)
  clear hc2 hco3 hg3 hg12 hown
  obtain ⟨av, cv, rfl, -, -⟩ := own_shp hown3
  cases b with
  | true =>
    go_wp2_with fail
    refine (spoilt_any _ _ _ s ⟨#[120, 65]⟩ w3 hc3 hco4 (by omega) (by omega) (by decide) (by decide)).mono ?_
    rintro e w4 ⟨t, rfl, ht, hc4, hg4⟩
    have hown4 := own_grown hown3 hg4 (fun b hb e => by have := hnb b hb; have := Option.some.inj e; omega)
    have hb4 := below_of_grown (hg13.trans hg4)
    clear hc3 hco4 hg4 hg13 hown3 hc4
    go_wp2
    go_ret2
    exact ⟨_, L, t, rfl, POwn.mono hown4 (by omega), hL, HSM.out, by omega, hb4⟩
  | false =>
    have hb3 := below_of_grown hg13
    go_wp2
    go_ret2
    exact ⟨_, L, s, rfl, POwn.mono hown3 (by omega), hL, HSM.out, by omega, hb3⟩
end Go.Proofs.YtknilofnelhgmaaDoor
