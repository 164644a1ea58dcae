/- The law of ReadEntry: whatever the text, it answers true and turns nothing old. -/
import Derived.Test.YtmjehpigfkobeabDoorRdE2
import Derived.Test.YtmjehpigfkobeabDoorLawsO1
set_option linter.unusedVariables false
namespace Go.Proofs.YtmjehpigfkobeabDoor
open Go.RowKit
open Doc1

set_option maxHeartbeats 2000000 in
theorem markE_own {w : World} {B : Nat} {v : Value} {l : List Pt} (c s : Int) (h : POwn w B v l) (hm : l.length ≤ 10000000) :
    Calls Tryd.prog 9 #[.agg #[.int .i64 c, .int .i64 s, v], .int .i64 1] w fun e w' => e = .returned (.int .i64 (1 + l.length * 3 : Nat)) ∧ w.grownBy w' v.ownBlock ∧ PMk w' v l.length := by
  obtain ⟨a, cp, rfl, -, -⟩ := own_shp h
  have h1 : POwn (w.alloc (.cells #[.int .i64 c, .int .i64 s, .slice a l.length cp] 24)) B (.slice a l.length cp) l := h.alloc _
  have M := hide (markP_own h1 hm)
  clear h h1
  go_enter Tryd.func9, Tryd.ntmps9
  go_wp2_with fail
  refine M.out.mono ?_
  rintro e w2 ⟨rfl, hg, hk⟩
  go_wp2
  go_ret
  exact ⟨rfl, (World.grownBy_alloc _ _ _).trans hg, hk⟩
set_option maxHeartbeats 2000000 in
theorem heldE_own {w : World} {v : Value} {n : Nat} (c s : Int) (h : PMk w v n) (hm : n ≤ 10000000) :
    Calls Tryd.prog 10 #[.agg #[.int .i64 c, .int .i64 s, v], .int .i64 1] w fun e w' => e = .returned (.int .i64 (1 + n * 3 : Nat)) ∧ Below w.heap.size w w' := by
  have hb : Below w.heap.size w (w.alloc (.cells #[.int .i64 c, .int .i64 s, v] 24)) := (Below.refl _ _).alloc (Nat.le_refl _) _
  have M := hide (heldP_own (h.later hb) hm)
  have HB := hide hb
  clear h hb
  go_enter Tryd.func10, Tryd.ntmps10
  go_wp2_with fail
  refine M.out.mono ?_
  rintro e w2 ⟨rfl, hb2⟩
  go_wp2
  go_ret
  exact ⟨rfl, HB.out.trans (hb2.mono HB.out.size)⟩
/-- What both answer, told at once. -/
theorem flat_post {s : ByteArray} {w : World} {e : Ending} {w' : World} : ∀ (c q : Int) (o : List Pt) (b : Bool),
    (b = true → whO s = true ∧ enOk (hdO s).data.toList) → (b = false → ¬ (whO s = true ∧ enOk (hdO s).data.toList)) →
    (b = true → c = (enT (hdO s).data.toList).cl ∧ q = (enT (hdO s).data.toList).sq ∧ o = (enT (hdO s).data.toList).op) → (b = false → c = 0 ∧ q = 0 ∧ o = []) →
    EnPost s w e w' → (∃ v, e = .returned (.tuple #[.agg #[.int .i64 c, .int .i64 q, v], .bool b]) ∧ POwn w' w.heap.size v o) ∧ Below w.heap.size w w' := by
  intro c q o b h1 h2 h3 h4 hp
  unfold EnPost at hp
  cases b with
  | true =>
    obtain ⟨rfl, rfl, rfl⟩ := h3 rfl
    obtain ⟨v, he, ho⟩ := hp.1 (h1 rfl)
    exact ⟨⟨v, he, ho⟩, hp.2.2⟩
  | false =>
    obtain ⟨rfl, rfl, rfl⟩ := h4 rfl
    exact ⟨⟨.slice none 0 0, hp.2.1 (h2 rfl), World.ownsRow_nil _ _ _ _⟩, hp.2.2⟩
theorem readEntry_both (s : ByteArray) (hf : s.size ≤ 1048576) :
    ∃ (c q : Int) (o : List Pt) (b : Bool), o.length ≤ 10000000 ∧ (∀ (w : World), Tab w → Calls Tryd.prog 6 #[.string s] w fun e w' => (∃ v, e = .returned (.tuple #[.agg #[.int .i64 c, .int .i64 q, v], .bool b]) ∧ POwn w' w.heap.size v o) ∧ Below w.heap.size w w') ∧
      (∀ (w : World), TabN w → TabC w → Calls Tryd.prog 7 #[.string s] w fun e w' => (∃ v, e = .returned (.tuple #[.agg #[.int .i64 c, .int .i64 q, v], .bool b]) ∧ POwn w' w.heap.size v o) ∧ Below w.heap.size w w') := by
  by_cases h : whO s = true ∧ enOk (hdO s).data.toList
  · refine ⟨(enT (hdO s).data.toList).cl, (enT (hdO s).data.toList).sq, (enT (hdO s).data.toList).op, true, ?_, fun w hT => ?_, fun w hT hC => ?_⟩
    · have := (rdO_sz (ctL 32 (ctL 32 (hdO s).data.toList).2.1).2.1).2
      show (rdO _).1.length ≤ _
      omega
    · exact (readEntryS s w hf hT).mono fun e w' hp => flat_post _ _ _ true (fun _ => h) (fun c => by cases c) (fun _ => ⟨rfl, rfl, rfl⟩) (fun c => by cases c) hp
    · exact (readEntryI s w hf hT hC).mono fun e w' hp => flat_post _ _ _ true (fun _ => h) (fun c => by cases c) (fun _ => ⟨rfl, rfl, rfl⟩) (fun c => by cases c) hp
  · refine ⟨0, 0, [], false, by simp, fun w hT => ?_, fun w hT hC => ?_⟩
    · exact (readEntryS s w hf hT).mono fun e w' hp => flat_post _ _ _ false (fun c => by cases c) (fun _ => h) (fun c => by cases c) (fun _ => ⟨rfl, rfl, rfl⟩) hp
    · exact (readEntryI s w hf hT hC).mono fun e w' hp => flat_post _ _ _ false (fun c => by cases c) (fun _ => h) (fun c => by cases c) (fun _ => ⟨rfl, rfl, rfl⟩) hp
/-- The boxes of what both have answered. -/
structure BB (b3 b5 : Nat) (c3 c5 : Array Value) (W : World) : Prop where
  h3 : W.heap[b3]? = some (.cells c3 24 (0, 0))
  h5 : W.heap[b5]? = some (.cells c5 24 (0, 0))
theorem BB.later {b3 b5 : Nat} {c3 c5 : Array Value} {W W1 : World} (h : BB b3 b5 c3 c5 W) (hb : Below W.heap.size W W1) : BB b3 b5 c3 c5 W1 :=
  ⟨(hb.block _ (Array.getElem?_eq_some_iff.1 h.h3).1).trans h.h3, (hb.block _ (Array.getElem?_eq_some_iff.1 h.h5).1).trans h.h5⟩

set_option maxRecDepth 100000 in
set_option maxHeartbeats 8000000 in
theorem law_readEntry (s : ByteArray) (w : World) (hm : s.size ≤ maxLen) (hT : TabN w) (hC : TabC w) :
    Calls Tryd.prog 3 #[.string s] w fun e w' => e = .returned (.bool true) ∧ Below w.heap.size w w' := by
  unfold maxLen at hm
  by_cases fs : s.size ≤ 1048576
  · obtain ⟨c, q, o, b, hol, HS, HI⟩ := readEntry_both s fs
    replace HS := hide HS
    replace HI := hide HI
    have HT := hide hT
    have HC := hide hC
    have ltw := hT.1.lt
    clear hT hC
    go_enter Tryd.func3, Tryd.ntmps3
    go_wp2_with fail
    refine (HS.out w HT.out.1).mono ?_
    rintro e w1 ⟨⟨x, rfl, ox⟩, hb1⟩
    have hs1 := hb1.size
    obtain ⟨ax, cx, rfl, -, -⟩ := own_shp ox
    have HB1 := hide (hb1.alloc hs1 (.cells #[.int .i64 c, .int .i64 q, .slice ax o.length cx] 24))
    have HOX := hide (show POwn (w1.alloc (.cells #[.int .i64 c, .int .i64 q, .slice ax o.length cx] 24)) w.heap.size (.slice ax o.length cx) o from ox.alloc _)
    have hk3 := hide (heap_alloc_new w1 (.cells #[.int .i64 c, .int .i64 q, .slice ax o.length cx] 24))
    clear hb1 ox
    go_wp2_with fail
    refine (HI.out _ (HT.out.below HB1.out) (HC.out.below HB1.out)).mono ?_
    rintro e w2 ⟨⟨y, rfl, oy⟩, hb2⟩
    have hs2 := hb2.size
    simp only [World.size_alloc] at hs2 oy
    obtain ⟨ay, cy, rfl, -, -⟩ := own_shp oy
    have hown : ∀ k, (Value.slice ay o.length cy).ownBlock = some k → w1.heap.size < k ∧ k < w2.heap.size := fun k hk => by have := oy.lt k hk; omega
    have HBB := hide (show BB w1.heap.size w2.heap.size #[.int .i64 c, .int .i64 q, .slice ax o.length cx] #[.int .i64 c, .int .i64 q, .slice ay o.length cy] (w2.alloc (.cells #[.int .i64 c, .int .i64 q, .slice ay o.length cy] 24)) from
      ⟨(Below.heap_alloc _ _ _ (by omega)).trans ((hb2.block _ (by simp)).trans hk3.out), heap_alloc_new w2 _⟩)
    have HB2 := hide ((HB1.out.trans (hb2.mono (by simp; omega))).alloc (by omega) (.cells #[.int .i64 c, .int .i64 q, .slice ay o.length cy] 24))
    have HOX2 := hide (show POwn (w2.alloc (.cells #[.int .i64 c, .int .i64 q, .slice ay o.length cy] 24)) w.heap.size (.slice ax o.length cx) o from (own_below HOX.out hb2).alloc _)
    have HOY2 := hide (show POwn (w2.alloc (.cells #[.int .i64 c, .int .i64 q, .slice ay o.length cy] 24)) (w1.heap.size + 1) (.slice ay o.length cy) o from oy.alloc _)
    have hoxb : ∀ k, (Value.slice ax o.length cx).ownBlock = some k → k < w1.heap.size + 1 := fun k hk => by have := HOX.out.lt k hk; simp at this; omega
    obtain ⟨m0, m1, m2, -, -, -⟩ := rbox3 HBB.out.h3
    obtain ⟨l0, l1, l2, -, -, -⟩ := rbox3 HBB.out.h5
    clear hb2 oy HB1 HOX hk3
    have hq2 := HB2.out.size
    go_wp2_with fail
    refine (eqEntry_r c q (PR.own HOY2.out) (PR.own HOX2.out) hol).mono ?_
    rintro e w3 ⟨rfl, hb3⟩
    have hs3 := hb3.size
    simp only [World.size_alloc] at hs3 hq2
    have HBB3 := hide (HBB.out.later hb3)
    have HOX3 := hide (own_below HOX2.out hb3)
    have HOY3 := hide (own_below HOY2.out hb3)
    have HB3 := hide (HB2.out.trans (hb3.mono HB2.out.size))
    obtain ⟨n0, n1, n2, -, -, -⟩ := rbox3 HBB3.out.h5
    clear hb3 m0 m1 m2 l0 l1 l2
    go_wp2_with fail
    refine (markE_own c q HOY3.out hol).mono ?_
    rintro e w4 ⟨rfl, hg4, mk4⟩
    have hs4 := hg4.size
    have HBB4 : Hid (BB w1.heap.size w2.heap.size #[.int .i64 c, .int .i64 q, .slice ax o.length cx] #[.int .i64 c, .int .i64 q, .slice ay o.length cy] w4) := hide
      ⟨(hg4.block _ (by omega) (fun e => by have := hown _ e.symm; omega)).trans HBB3.out.h3, (hg4.block _ (by omega) (fun e => by have := hown _ e.symm; omega)).trans HBB3.out.h5⟩
    have HOX4 := hide (own_grown HOX3.out hg4 (fun b hb' e => by have q1 := hoxb b hb'; have q2 := hown b e; omega))
    have HB4 := hide (HB3.out.grown hg4 HB3.out.size (fun b e => by have q2 := hown b e; omega))
    have HM4 := hide mk4
    obtain ⟨k0, k1, k2, -, -, -⟩ := rbox3 HBB4.out.h5
    clear hg4 mk4 n0 n1 n2
    go_wp2_with fail
    refine (heldE_own c q HM4.out hol).mono ?_
    rintro e w5 ⟨rfl, hb5⟩
    have HBB5 := hide (HBB4.out.later hb5)
    have HOX5 := hide (own_below HOX4.out hb5)
    have HM5 := hide (HM4.out.later hb5)
    have HB5 := hide (HB4.out.trans (hb5.mono HB4.out.size))
    clear hb5 k0 k1 k2
    go_wp2_with fail
    refine (HI.out _ (HT.out.below HB5.out) (HC.out.below HB5.out)).mono ?_
    rintro e w6 ⟨⟨z, rfl, oz⟩, hb6⟩
    have hs6 := hb6.size
    obtain ⟨az, cz, rfl, -, -⟩ := own_shp oz
    have hal : Below w6.heap.size w6 (w6.alloc (.cells #[.int .i64 c, .int .i64 q, .slice az o.length cz] 24)) := (Below.refl _ _).alloc (Nat.le_refl _) _
    have HBB6 := hide ((HBB5.out.later hb6).later hal)
    have HOX6 := hide (own_below (own_below HOX5.out hb6) hal)
    have HOZ6 := hide (own_below oz hal)
    have HM6 := hide ((HM5.out.later hb6).later hal)
    have HB6 := hide ((HB5.out.trans (hb6.mono HB5.out.size)).alloc (by have := HB5.out.size; omega) (.cells #[.int .i64 c, .int .i64 q, .slice az o.length cz] 24))
    obtain ⟨p0, p1, p2, -, -, -⟩ := rbox3 HBB6.out.h3
    clear hb6 hal oz
    go_wp2_with fail
    refine (eqEntry_r c q (PR.own HOZ6.out) (PR.own HOX6.out) hol).mono ?_
    rintro e w7 ⟨rfl, hb7⟩
    have HBB7 := hide (HBB6.out.later hb7)
    have HM7 := hide (HM6.out.later hb7)
    have HB7 := hide (HB6.out.trans (hb7.mono HB6.out.size))
    obtain ⟨j0, j1, j2, -, -, -⟩ := rbox3 HBB7.out.h5
    clear hb7 p0 p1 p2
    go_wp2_with fail
    refine (heldE_own c q HM7.out hol).mono ?_
    rintro e w8 ⟨rfl, hb8⟩
    have HB8 := hide (HB7.out.trans (hb8.mono HB7.out.size))
    clear hb8
    go_wp2
    go_ret
    exact ⟨rfl, HB8.out⟩
  · go_enter Tryd.func3, Tryd.ntmps3
    go_wp2
    go_ret
    exact ⟨rfl, Below.refl _ _⟩

end Go.Proofs.YtmjehpigfkobeabDoor
