/- The contracts of impl.SizesOf and impl.GoodOp. The contracts of impl.SizesOf and impl.GoodOp at the nil list. -/
import Derived.Test.YtmjehpigfkobeabDoorOpWA
namespace Go.Proofs.YtmjehpigfkobeabDoor
open Go.RowKit Go.Shelf
open Doc1

attribute [local go_sem] Oper.semAt_some

theorem cells3_new (w : World) (a b c : Value) (t : TypeId) : (w.alloc (.cells #[a, b, c] t)).cell? ⟨w.heap.size, 0, none⟩ = some a ∧ (w.alloc (.cells #[a, b, c] t)).cell? ⟨w.heap.size, 1, none⟩ = some b ∧ (w.alloc (.cells #[a, b, c] t)).cell? ⟨w.heap.size, 2, none⟩ = some c := by
  have hh := heap_alloc_new w (.cells #[a, b, c] t)
  refine ⟨?_, ?_, ?_⟩
  all_goals
    unfold World.cell?
    rw [hh]; rfl
theorem set_far {W : World} {B Bx j : Nat} {u v : Value} (hne : Bx ≠ B) (h : W.cell? ⟨Bx, j, none⟩ = some u) : (W.setCell ⟨B, 0, none⟩ v).cell? ⟨Bx, j, none⟩ = some u :=
  (World.cell?_of_block (Below.heap_setCell _ _ _ _ hne)).trans h
theorem put3 {W : World} {B0 B1 B2 : Nat} {t0 t1 t2 : TypeId} {v0 v1 v2 u0 u1 u2 : Value} (c0 : Boxed W B0 t0 v0) (c1 : Boxed W B1 t1 v1) (c2 : Boxed W B2 t2 v2) (h01 : B0 < B1) (h12 : B1 < B2) (h02 : B0 < B2) :
    ∃ W1, W1 = ((W.setCell ⟨B0, 0, none⟩ u0).setCell ⟨B1, 0, none⟩ u1).setCell ⟨B2, 0, none⟩ u2 ∧ Boxed W1 B0 t0 u0 ∧ Boxed W1 B1 t1 u1 ∧ Boxed W1 B2 t2 u2 ∧ KeepsOthers W W1 ∧ ∀ n, n ≤ B0 → Below n W W1 :=
  ⟨_, rfl, ((c0.set _).other (by omega) _).other (by omega) _, ((c1.other (by omega) _).set _).other (by omega) _, ((c2.other (by omega) _).other (by omega) _).set _, ((KeepsOthers.setCell _ _ _).trans (KeepsOthers.setCell _ _ _)).trans (KeepsOthers.setCell _ _ _),
    fun n hn => (((Below.refl n W).setCell (p := ⟨B0, 0, none⟩) hn _).setCell (p := ⟨B1, 0, none⟩) (by show n ≤ B1; omega) _).setCell (p := ⟨B2, 0, none⟩) (by show n ≤ B2; omega) _⟩
theorem all_gp {l : List Pt} (h : ∀ p ∈ l, pk p ≠ 0) : l.all gp = true := List.all_eq_true.2 (fun p hp => by rw [gp_pk]; exact decide_eq_true (h p hp))
theorem goodO_bad {l : List Pt} {p : Pt} (hp : p ∈ l) (h : pk p = 0) : goodO l = false := by
  obtain ⟨i, hi, he⟩ := List.getElem_of_mem hp
  exact goodO_no_at hi (by rw [he, gp_pk, h]; rfl)

set_option maxRecDepth 100000 in
set_option maxHeartbeats 2000000 in
theorem sizesI {w : World} {aw : Option Addr} {g cap : Nat} {l : List Pt} (h : Pin w aw g cap l) (hT : Tab w) (h60 : l.length ≤ 60) :
    Calls Tryd.prog 86 #[.slice aw l.length cap] w fun e w' => e = .returned (.tuple #[.int .i64 (szT l), .int .i64 (szM l), .bool (goodO l)]) ∧ Below w.heap.size w w' := by
  have PO := hide (fun w' => partsOf_any (.slice aw l.length cap) w' _ _ _ rfl)
  have H := hide h
  have hln : decide ((60 : Int) < (l.length : Int)) = false := decide_eq_false (by omega)
  clear h
  refine (callsIn_wide (n := 6)).1 ?_
  refine callsIn_of_wp_marks Tryd.func86 rfl trivial ?_ rfl
  simp only [Tryd.ntmps86, List.size_toArray, List.length_cons, List.length_nil, Nat.reduceAdd, Nat.reduceSub, Array.replicate_succ, Array.replicate_zero, List.push_toArray, List.append_toArray, List.nil_append, List.cons_append]
  gi_wp2_with (refine ⟨trivial, ?_⟩; gi_at_call 94; refine (callsIn_wide.2 (PO.out _)).mono ?_; rintro e w' ⟨rfl, hw⟩; replace hw := hw.symm; subst hw)
  have b0 := ((((((Boxed.new (w) 3 (.int .i64 0)).alloc (.cells #[.int .i64 0] 3)).alloc (.cells #[.bool false] 4)).alloc (.cells #[.int .i64 0] 3)).alloc (.cells #[.int .i64 0] 3)).alloc (.cells #[.slice aw l.length cap] 22))
  have b1 := (((((Boxed.new (w.alloc (.cells #[.int .i64 0] 3)) 3 (.int .i64 0)).alloc (.cells #[.bool false] 4)).alloc (.cells #[.int .i64 0] 3)).alloc (.cells #[.int .i64 0] 3)).alloc (.cells #[.slice aw l.length cap] 22))
  have b2 := ((((Boxed.new ((w.alloc (.cells #[.int .i64 0] 3)).alloc (.cells #[.int .i64 0] 3)) 4 (.bool false)).alloc (.cells #[.int .i64 0] 3)).alloc (.cells #[.int .i64 0] 3)).alloc (.cells #[.slice aw l.length cap] 22))
  have b3 := (((Boxed.new (((w.alloc (.cells #[.int .i64 0] 3)).alloc (.cells #[.int .i64 0] 3)).alloc (.cells #[.bool false] 4)) 3 (.int .i64 0)).alloc (.cells #[.int .i64 0] 3)).alloc (.cells #[.slice aw l.length cap] 22))
  have b4 := ((Boxed.new ((((w.alloc (.cells #[.int .i64 0] 3)).alloc (.cells #[.int .i64 0] 3)).alloc (.cells #[.bool false] 4)).alloc (.cells #[.int .i64 0] 3)) 3 (.int .i64 0)).alloc (.cells #[.slice aw l.length cap] 22))
  have b5 := (Boxed.new (((((w.alloc (.cells #[.int .i64 0] 3)).alloc (.cells #[.int .i64 0] 3)).alloc (.cells #[.bool false] 4)).alloc (.cells #[.int .i64 0] 3)).alloc (.cells #[.int .i64 0] 3)) 22 (.slice aw l.length cap))
  simp only [World.size_alloc] at b1 b2 b3 b4 b5
  have hB0 : Below w.heap.size w ((((((w.alloc (.cells #[.int .i64 0] 3)).alloc (.cells #[.int .i64 0] 3)).alloc (.cells #[.bool false] 4)).alloc (.cells #[.int .i64 0] 3)).alloc (.cells #[.int .i64 0] 3)).alloc (.cells #[.slice aw l.length cap] 22)) := ((((((Below.refl _ w).alloc (Nat.le_refl _) _).alloc (by simp) _).alloc (by simp; omega) _).alloc (by simp; omega) _).alloc (by simp; omega) _).alloc (by simp; omega) _
  have hsz : ((((((w.alloc (.cells #[.int .i64 0] 3)).alloc (.cells #[.int .i64 0] 3)).alloc (.cells #[.bool false] 4)).alloc (.cells #[.int .i64 0] 3)).alloc (.cells #[.int .i64 0] 3)).alloc (.cells #[.slice aw l.length cap] 22)).heap.size = w.heap.size + 6 := by simp
  obtain ⟨W0, hW0⟩ : ∃ W0, (((((w.alloc (.cells #[.int .i64 0] 3)).alloc (.cells #[.int .i64 0] 3)).alloc (.cells #[.bool false] 4)).alloc (.cells #[.int .i64 0] 3)).alloc (.cells #[.int .i64 0] 3)).alloc (.cells #[.slice aw l.length cap] 22) = W0 := ⟨_, rfl⟩
  rw [hW0] at b0 b1 b2 b3 b4 b5 hB0 hsz ⊢
  clear hW0
  have hTlt := hT.lt
  have hp0 := H.out.later hB0
  have hglt := H.out.lt
  refine wpIn_rangeFunc_ownH rfl (by omega) (gf := 111) (lb := #[.pointer (some ⟨w.heap.size + 1 + 1 + 1 + 1 + 1, 0, none⟩)]) rfl trivial (enters_of Tryd.func111 (by kernel_rfl) rfl)
    (parts_stops (w := W0) 5 (w.heap.size + 1 + 1 + 1 + 1 + 1) (by omega) hp0 (hT.below hB0) w.heap.size hglt (by omega) (by omega) hTlt b5.cell) belowK_t (belowK_b (by omega)) (Below.refl _ _) (fun _ => rfl)
    (fun pre W => (Boxed W (w.heap.size + 1 + 1 + 1) 3 (.int .i64 (tkL pre)) ∧ Boxed W (w.heap.size + 1 + 1 + 1 + 1) 3 (.int .i64 (mkL pre))) ∧ (Boxed W (w.heap.size) 3 (.int .i64 0) ∧ Boxed W (w.heap.size + 1) 3 (.int .i64 0)) ∧ Boxed W (w.heap.size + 1 + 1) 4 (.bool false) ∧ (∀ p ∈ pre, pk p ≠ 0) ∧ Below w.heap.size w W)
    (fun c pre W => ((Boxed W (w.heap.size) 3 (.int .i64 0) ∧ Boxed W (w.heap.size + 1) 3 (.int .i64 0)) ∧ Boxed W (w.heap.size + 1 + 1) 4 (.bool false)) ∧ (c = .ret ∧ ∃ p ∈ pre, pk p = 0) ∧ Below w.heap.size w W)
    (OwnFrom.and (OwnFrom.and (Own.from (boxed_own _ _ _) _) (Own.from (boxed_own _ _ _) _)) (OwnFrom.and (OwnFrom.and (Own.from (boxed_own _ _ _) _) (Own.from (boxed_own _ _ _) _)) (OwnFrom.and (Own.from (boxed_own _ _ _) _) (OwnFrom.and (ownFrom_pure _ _) (ownFrom_below (Nat.le_refl _) (by omega))))))
    (fun c => OwnFrom.and (OwnFrom.and (OwnFrom.and (Own.from (boxed_own _ _ _) _) (Own.from (boxed_own _ _ _) _)) (Own.from (boxed_own _ _ _) _)) (OwnFrom.and (ownFrom_pure _ _) (ownFrom_below (Nat.le_refl _) (by omega))))
    ⟨⟨b3, b4⟩, ⟨b0, b1⟩, b2, by simp, hB0⟩
    (fun x a' W => ∃ Bx, w.heap.size + 1 + 1 + 1 + 1 < Bx ∧ (W.cell? ⟨Bx, 0, none⟩ = some (.int .i64 x.keep) ∧ W.cell? ⟨Bx, 1, none⟩ = some (.string x.put) ∧ W.cell? ⟨Bx, 2, none⟩ = some (.string x.drop)) ∧ a' = { tmps := #[.slice aw l.length cap, undef, .pointer (some ⟨w.heap.size, 0, none⟩), .pointer (some ⟨w.heap.size + 1, 0, none⟩), .pointer (some ⟨w.heap.size + 1 + 1, 0, none⟩), .pointer (some ⟨w.heap.size + 1 + 1 + 1, 0, none⟩), .pointer (some ⟨w.heap.size + 1 + 1 + 1 + 1, 0, none⟩), .int .i64 (pk x : Int), .pointer (some ⟨Bx, 0, none⟩), .slice aw l.length cap, .int .i64 (l.length : Int), .bool false, .slice aw l.length cap, .func (.func 111) #[] #[.pointer (some ⟨w.heap.size + 1 + 1 + 1 + 1 + 1, 0, none⟩)], .int .i64 (pk x : Int), .agg #[.int .i64 x.keep, .string x.put, .string x.drop], undef, undef, undef, undef, undef, undef, undef, undef, undef, undef, undef, undef, undef, undef, undef, undef, undef, undef, undef, undef, undef, undef, undef, undef, undef, undef], defers := [] })
    (fun x a' _ X Y row hs hg hr => by obtain ⟨Bx, h1, h2, h3⟩ := hs; exact ⟨Bx, h1, ⟨cell_kept h2.1 hg (fun r e => (hr r e).2), cell_kept h2.2.1 hg (fun r e => (hr r e).2), cell_kept h2.2.2 hg (fun r e => (hr r e).2)⟩, h3⟩)
    ?assign ?body ?done ?stop
  case assign =>
    rintro li pre x W K ⟨⟨c3, c4⟩, ⟨c0, c1⟩, c2, hpk, hB⟩ hK
    have hbs := hB.size
    have hl4 := c4.lt
    obtain ⟨y0, y1, y2⟩ := cells3_new W (.int .i64 x.keep) (.string x.put) (.string x.drop) 83
    simp only [ptE, ptV]
    gi_wp2
    exact hK _ _ ((KeepsOthers.alloc _ _).from _) ((Below.refl _ W).alloc hbs _) ⟨⟨c3.alloc _, c4.alloc _⟩, ⟨c0.alloc _, c1.alloc _⟩, c2.alloc _, hpk, hB.alloc hbs _⟩ ⟨W.heap.size, hl4, ⟨y0, y1, y2⟩, rfl⟩
  case body =>
    rintro li pre x a' W hl ⟨r, hr⟩ ⟨⟨c3, c4⟩, ⟨c0, c1⟩, c2, hpk, hB⟩ ⟨Bx, hBx, ⟨x0, x1, x2⟩, rfl⟩ hlt
    by_cases hp : pk x = 0
    · have hp' : ((pk x : Int) == 0) = true := by rw [hp]; rfl
      have e0 := c0.cell
      have f0 := c0.frozen
      have e1 := (c1.other (B' := w.heap.size) (by omega) (.int .i64 0)).cell
      have f1 := (c1.other (B' := w.heap.size) (by omega) (.int .i64 0)).frozen
      have e2 := ((c2.other (B' := w.heap.size) (by omega) (.int .i64 0)).other (B' := w.heap.size + 1) (by omega) (.int .i64 0)).cell
      have f2 := ((c2.other (B' := w.heap.size) (by omega) (.int .i64 0)).other (B' := w.heap.size + 1) (by omega) (.int .i64 0)).frozen
      gi_wp2
      refine ⟨(((KeepsOthers.setCell _ _ _).trans (KeepsOthers.setCell _ _ _)).trans (KeepsOthers.setCell _ _ _)).from _, ⟨⟨((c0.set _).other (by omega) _).other (by omega) _, ((c1.other (by omega) _).set _).other (by omega) _⟩, ((c2.other (by omega) _).other (by omega) _).set _⟩, ⟨rfl, x, by simp, hp⟩, ?_⟩
      exact ((hB.setCell (p := ⟨w.heap.size, 0, none⟩) (Nat.le_refl _) _).setCell (p := ⟨w.heap.size + 1, 0, none⟩) (by show _ ≤ _ + 1; omega) _).setCell (p := ⟨w.heap.size + 1 + 1, 0, none⟩) (by show _ ≤ _ + 1 + 1; omega) _
    · have hp' : ((pk x : Int) == 0) = false := by rw [beq_eq_false_iff_ne]; omega
      have q1 := all_bd pre hpk
      have q2 := pk_bd hp
      have e3 := c3.cell
      have f3 := c3.frozen
      have e4 := fun v => (c4.other (B' := w.heap.size + 1 + 1 + 1) (by omega) v).cell
      have f4 := fun v => (c4.other (B' := w.heap.size + 1 + 1 + 1) (by omega) v).frozen
      have y0 := fun v => set_far (B := w.heap.size + 1 + 1 + 1) (v := v) (by omega) x0
      have y1 := fun v => set_far (B := w.heap.size + 1 + 1 + 1) (v := v) (by omega) x1
      have hsn := And.intro (tkL_snoc pre x) (mkL_snoc pre x)
      unfold tk1 mk1 at q2 hsn
      have HS := hide hsn
      clear hsn
      have hpl : pre.length ≤ 60 := by omega
      gi_wp2
      refine ⟨((KeepsOthers.setCell _ _ _).trans (KeepsOthers.setCell _ _ _)).from _, ((Below.refl w.heap.size W).setCell (p := ⟨w.heap.size + 1 + 1 + 1, 0, none⟩) (by show _ ≤ _ + 1 + 1 + 1; omega) _).setCell (p := ⟨w.heap.size + 1 + 1 + 1 + 1, 0, none⟩) (by show _ ≤ _ + 1 + 1 + 1 + 1; omega) _, ⟨⟨?_, ?_⟩, ⟨(c0.other (by omega) _).other (by omega) _, (c1.other (by omega) _).other (by omega) _⟩, (c2.other (by omega) _).other (by omega) _, ?_, ?_⟩⟩
      · rw [HS.out.1]; exact (c3.set _).other (by omega) _
      · rw [HS.out.2]; exact (c4.other (by omega) _).set _
      · intro p hpm
        rcases List.mem_append.1 hpm with hm | hm
        · exact hpk p hm
        · simp at hm; subst hm; exact hp
      · exact (hB.setCell (p := ⟨w.heap.size + 1 + 1 + 1, 0, none⟩) (by show _ ≤ _ + 1 + 1 + 1; omega) _).setCell (p := ⟨w.heap.size + 1 + 1 + 1 + 1, 0, none⟩) (by show _ ≤ _ + 1 + 1 + 1 + 1; omega) _
  case done =>
    rintro D ys W hD rfl ⟨⟨c3, c4⟩, ⟨c0, c1⟩, c2, hpk, hB⟩ hK
    have hgs := goodO_sums h60 (all_gp hpk)
    have e3 := c3.cell
    have e4 := c4.cell
    by_cases hgd : tkL ys ≤ 300 ∧ mkL ys ≤ 300
    · rw [decide_eq_true hgd] at hgs
      have t1 : ¬ (300 < tkL ys) := by omega
      have t2 : ¬ (300 < mkL ys) := by omega
      obtain ⟨W1, hW1, g0, g1, g2, hKO, hBl⟩ := put3 (u0 := .int .i64 (tkL ys)) (u1 := .int .i64 (mkL ys)) (u2 := .bool true) c0 c1 c2 (by omega) (by omega) (by omega)
      have hK1 := hKO.same D _ hK rfl
      have z0 := c0.frozen
      have e1 := (c1.other (B' := w.heap.size) (by omega) (.int .i64 (tkL ys))).cell
      have z1 := (c1.other (B' := w.heap.size) (by omega) (.int .i64 (tkL ys))).frozen
      have e2 := ((c2.other (B' := w.heap.size) (by omega) (.int .i64 (tkL ys))).other (B' := w.heap.size + 1) (by omega) (.int .i64 (mkL ys))).cell
      have z2 := ((c2.other (B' := w.heap.size) (by omega) (.int .i64 (tkL ys))).other (B' := w.heap.size + 1) (by omega) (.int .i64 (mkL ys))).frozen
      have e0 := c0.cell
      have k0 : (W1.drew.putObj D (.deferred none)).cell? ⟨w.heap.size, 0, none⟩ = some (.int .i64 (tkL ys)) := cell_kept (W := W1.drew) g0.cell (grownBy_putObj' _ D (.deferred none)) (fun r e => by cases e; exact ⟨_, hK1, rfl⟩)
      have k1 : (W1.drew.putObj D (.deferred none)).cell? ⟨w.heap.size + 1, 0, none⟩ = some (.int .i64 (mkL ys)) := cell_kept (W := W1.drew) g1.cell (grownBy_putObj' _ D (.deferred none)) (fun r e => by cases e; exact ⟨_, hK1, rfl⟩)
      have k2 : (W1.drew.putObj D (.deferred none)).cell? ⟨w.heap.size + 1 + 1, 0, none⟩ = some (.bool true) := cell_kept (W := W1.drew) g2.cell (grownBy_putObj' _ D (.deferred none)) (fun r e => by cases e; exact ⟨_, hK1, rfl⟩)
      have hK2 : W1.drew.heap[D]? = some (.deferred (some [])) := hK1
      have HW := hide hW1
      have HG := hide hgs
      have Hend : Hid (Below w.heap.size w (W1.drew.putObj D (.deferred none))) := hide (((hB.trans (hBl _ (Nat.le_refl _))).drew).trans (belowK_b (w := w) (Nat.le_refl _) W1.drew D _ _ (by omega) hK2 rfl rfl))
      clear hW1 g0 g1 g2 hKO hBl hgs c0 c1 c2 c3 c4
      have hmix : Tryd.prog.follows .mixedOrders = true := by kernel_rfl
      gi_wp2
      gi_region_with_o (fail)
      all_goals
        gi_wp2
        rw [← HW.out]
        refine ⟨by simp, .inl ⟨_, _, rfl, run_takeDeferred hK2, ?_⟩⟩
        refine ⟨.tuple #[.int .i64 (tkL ys), .int .i64 (mkL ys), .bool true], ?_, by unfold szT szM; rw [HG.out]; rfl, Hend.out⟩
        simp [results, Tryd.f86, go_sem, k0, k1, k2]
    · rw [decide_eq_false hgd] at hgs
      obtain ⟨W1, hW1, g0, g1, g2, hKO, hBl⟩ := put3 (u0 := .int .i64 0) (u1 := .int .i64 0) (u2 := .bool false) c0 c1 c2 (by omega) (by omega) (by omega)
      have hK1 := hKO.same D _ hK rfl
      have z0 := c0.frozen
      have e1 := (c1.other (B' := w.heap.size) (by omega) (.int .i64 0)).cell
      have z1 := (c1.other (B' := w.heap.size) (by omega) (.int .i64 0)).frozen
      have e2 := ((c2.other (B' := w.heap.size) (by omega) (.int .i64 0)).other (B' := w.heap.size + 1) (by omega) (.int .i64 0)).cell
      have z2 := ((c2.other (B' := w.heap.size) (by omega) (.int .i64 0)).other (B' := w.heap.size + 1) (by omega) (.int .i64 0)).frozen
      have e0 := c0.cell
      have k0 := cell_kept g0.cell (grownBy_putObj' _ D (.deferred none)) (fun r e => by cases e; exact ⟨_, hK1, rfl⟩)
      have k1 := cell_kept g1.cell (grownBy_putObj' _ D (.deferred none)) (fun r e => by cases e; exact ⟨_, hK1, rfl⟩)
      have k2 := cell_kept g2.cell (grownBy_putObj' _ D (.deferred none)) (fun r e => by cases e; exact ⟨_, hK1, rfl⟩)
      have HW := hide hW1
      have HG := hide hgs
      have Hend : Hid (Below w.heap.size w (W1.putObj D (.deferred none))) := hide ((hB.trans (hBl _ (Nat.le_refl _))).trans (belowK_b (w := w) (Nat.le_refl _) W1 D _ _ (by omega) hK1 rfl rfl))
      clear hW1 g0 g1 g2 hKO hBl hgs c0 c1 c2 c3 c4
      by_cases ht : tkL ys ≤ 300
      · have hm : 300 < mkL ys := by omega
        gi_wp2
        rw [← HW.out]
        refine ⟨by simp, .inl ⟨_, _, rfl, run_takeDeferred hK1, ?_⟩⟩
        refine ⟨.tuple #[.int .i64 0, .int .i64 0, .bool false], ?_, by unfold szT szM; rw [HG.out]; rfl, Hend.out⟩
        simp [results, Tryd.f86, go_sem, k0, k1, k2]
      · have hm : 300 < tkL ys := by omega
        gi_wp2
        rw [← HW.out]
        refine ⟨by simp, .inl ⟨_, _, rfl, run_takeDeferred hK1, ?_⟩⟩
        refine ⟨.tuple #[.int .i64 0, .int .i64 0, .bool false], ?_, by unfold szT szM; rw [HG.out]; rfl, Hend.out⟩
        simp [results, Tryd.f86, go_sem, k0, k1, k2]
  case stop =>
    rintro D c pre W hD hpre ⟨⟨⟨c0, c1⟩, c2⟩, ⟨rfl, p, hp, hp0⟩, hB⟩ hK
    have hno := goodO_bad (hpre.subset hp) hp0
    have e0 := cell_kept c0.cell (grownBy_putObj' _ D (.deferred none)) (fun r e => by cases e; exact ⟨_, hK, rfl⟩)
    have e1 := cell_kept c1.cell (grownBy_putObj' _ D (.deferred none)) (fun r e => by cases e; exact ⟨_, hK, rfl⟩)
    have e2 := cell_kept c2.cell (grownBy_putObj' _ D (.deferred none)) (fun r e => by cases e; exact ⟨_, hK, rfl⟩)
    gi_wp2
    refine ⟨by simp, .inl ⟨_, _, rfl, run_takeDeferred hK, ?_⟩⟩
    refine ⟨.tuple #[.int .i64 0, .int .i64 0, .bool false], ?_, by unfold szT szM; rw [hno]; rfl, hB.trans (belowK_b (w := w) (Nat.le_refl _) W D _ _ (by omega) hK rfl rfl)⟩
    simp [results, Tryd.f86, go_sem, e0, e1, e2]

set_option maxRecDepth 100000 in
set_option maxHeartbeats 1000000 in
theorem sizesI_long {w : World} {l : List Pt} (a : Option Addr) (cap : Nat) (h60 : ¬ l.length ≤ 60) (_hln : l.length ≤ 1048576) :
    Calls Tryd.prog 86 #[.slice a l.length cap] w fun e w' => e = .returned (.tuple #[.int .i64 (szT l), .int .i64 (szM l), .bool (goodO l)]) ∧ Below w.heap.size w w' := by
  have hno := goodO_no_len h60
  unfold szT szM
  rw [hno]
  have h61 : (60 : Int) < (l.length : Int) := by omega
  go_enter Tryd.func86, Tryd.ntmps86
  go_wp2
  refine bodyPost_ret (v := .tuple #[.int .i64 0, .int .i64 0, .bool false]) (by simp [results, Tryd.results86, go_sem]) rfl ⟨rfl, ?_⟩
  exact (((Below.refl _ _).alloc (Nat.le_refl _) _).alloc (by simp) _).alloc (by simp; omega) _

theorem sizesI_any {w : World} {aw : Option Addr} {g cap : Nat} {l : List Pt} (h : Pin w aw g cap l) (hT : Tab w) :
    Calls Tryd.prog 86 #[.slice aw l.length cap] w fun e w' => e = .returned (.tuple #[.int .i64 (szT l), .int .i64 (szM l), .bool (goodO l)]) ∧ Below w.heap.size w w' := by
  by_cases h60 : l.length ≤ 60
  · exact sizesI h hT h60
  · exact sizesI_long _ cap h60 h.len

set_option maxHeartbeats 1000000 in
theorem goodOpI {w : World} {aw : Option Addr} {g cap : Nat} {l : List Pt} (h : Pin w aw g cap l) (hT : Tab w) :
    Calls Tryd.prog 59 #[.slice aw l.length cap] w fun e w' => e = .returned (.bool (goodO l)) ∧ Below w.heap.size w w' := by
  have S := hide (sizesI_any h hT)
  clear h
  go_enter Tryd.func59, Tryd.ntmps59
  go_wp2_with fail
  refine S.out.mono ?_
  rintro e w1 ⟨rfl, hb⟩
  go_wp2
  go_ret
  exact ⟨rfl, hb⟩
end Go.Proofs.YtmjehpigfkobeabDoor

namespace Go.Proofs.YtmjehpigfkobeabDoor
open Go.RowKit Go.Shelf
open Doc1

/-- A row of one's own, as an argument. -/
theorem own_pin {w : World} {B : Nat} {v : Value} {l : List Pt} (h : POwn w B v l) (hT : Tab w) (hs : ∀ i (hi : i < l.length), l[i].put.size ≤ 1048576 ∧ l[i].drop.size ≤ 1048576) (hl : l.length ≤ 1048576) :
    ∃ aw g cap, v = .slice aw l.length cap ∧ Pin w aw g cap l := by
  rcases Nat.eq_zero_or_pos l.length with h0 | h0
  · obtain rfl := List.eq_nil_of_length_eq_zero h0
    rcases h.2 with ⟨rfl, -⟩ | ⟨g, cap, cur, rfl, hb, hh, hle, hm, hz, ht⟩
    · exact ⟨none, 3, 0, rfl, ⟨by simp, by unfold maxLen; omega⟩, fun i hi => by simp at hi, by simp, (fun j u hu => by simp [encP] at hu), hT.lt, fun c => absurd rfl c⟩
    · exact ⟨_, g, cap, rfl, ⟨by simp, hm⟩, fun i hi => by simp at hi, by simp, (fun j u hu => by simp [encP] at hu), (Array.getElem?_eq_some_iff.1 hh).1, fun _ => rfl⟩
  · obtain ⟨g, cap, rfl, hle, hm, hB, hlt, hc, hbk⟩ := own_cat h h0
    exact ⟨_, g, cap, rfl, ⟨hle, hm⟩, hs, hl, hc, hlt, fun _ => rfl⟩
/-- GoodOp of a row of one's own. -/
theorem goodOpI_own {w : World} {B : Nat} {v : Value} {l : List Pt} (h : POwn w B v l) (hT : Tab w) (hs : ∀ i (hi : i < l.length), l[i].put.size ≤ 1048576 ∧ l[i].drop.size ≤ 1048576) (hl : l.length ≤ 1048576) :
    Calls Tryd.prog 59 #[v] w fun e w' => e = .returned (.bool (goodO l)) ∧ Below w.heap.size w w' := by
  obtain ⟨aw, g, cap, rfl, hp⟩ := own_pin h hT hs hl
  exact goodOpI hp hT
end Go.Proofs.YtmjehpigfkobeabDoor
