/- What a change costs: the program's CostOf and the model's. -/
import Derived.Test.YtojlnnlcbpjdlaaDoorLawsO1
namespace Go.Proofs.YtojlnnlcbpjdlaaDoor
open Go.RowKit Go.Shelf
open Doc1

attribute [local go_sem] Oper.semAt_some

/-- How many bytes a row of parts puts and drops. -/
def cst (l : List Pt) : Int := l.foldl (fun n p => n + (p.put.size + p.drop.size)) 0
theorem cst_snoc (l : List Pt) (p : Pt) : cst (l ++ [p]) = cst l + (p.put.size + p.drop.size) := by unfold cst; rw [List.foldl_append]; rfl

theorem pk_szs {p : Pt} (h : pk p ≠ 0) : p.put.size ≤ 300 ∧ p.drop.size ≤ 300 := by
  unfold pk at h
  rw [sz_list, sz_list]
  split at h
  · rename_i c; rw [c.1, c.2.1]; simp
  · split at h
    · rename_i _ c; have := good_len c.2.2.2; rw [c.2.1]; simp; simpa using this
    · split at h
      · rename_i _ _ c; have := good_len c.2.2.2; rw [c.2.1]; simp; simpa using this
      · exact absurd rfl h
theorem cst_bd (l : List Pt) (h : ∀ p ∈ l, pk p ≠ 0) : 0 ≤ cst l ∧ cst l ≤ 600 * l.length := by
  unfold cst
  suffices H : ∀ n : Int, n ≤ l.foldl (fun (n : Int) (p : Pt) => n + ((p.put.size : Int) + (p.drop.size : Int))) n ∧ l.foldl (fun (n : Int) (p : Pt) => n + ((p.put.size : Int) + (p.drop.size : Int))) n ≤ n + 600 * l.length by
    have := H 0
    omega
  induction l with
  | nil => intro n; simp
  | cons p l ih =>
    intro n
    have h1 := pk_szs (h p (by simp))
    have h2 := ih (fun q hq => h q (by simp [hq])) (n + (p.put.size + p.drop.size))
    simp only [List.foldl_cons, List.length_cons]
    omega

set_option maxRecDepth 100000 in
set_option maxHeartbeats 2000000 in
theorem costI_good {w : World} {aw : Option Addr} {g cap : Nat} {l : List Pt} (h : Pin w aw g cap l) (hT : Tab w) (hg : goodO l = true) :
    Calls Tryd.prog 45 #[.slice aw l.length cap] w fun e w' => e = .returned (.tuple #[.int .i64 (cst l), .bool true]) ∧ Below w.heap.size w w' := by
  have PO := hide (fun w' => partsOf_any (.slice aw l.length cap) w' _ _ _ rfl)
  have GO := goodOpI h hT
  rw [hg] at GO
  replace GO := hide GO
  have H := hide h
  clear h
  refine (callsIn_wide (n := 6)).1 ?_
  refine callsIn_of_wp_marks Tryd.func45 rfl trivial ?_ rfl
  simp only [Tryd.ntmps45, List.size_toArray, List.length_cons, List.length_nil, Nat.reduceAdd, Nat.reduceSub, Array.replicate_succ, Array.replicate_zero, List.push_toArray, List.append_toArray, List.nil_append, List.cons_append]
  gi_wp2_with (first | (refine ⟨trivial, ?_⟩; gi_at_call 68; refine (callsIn_wide.2 GO.out).mono ?_; rintro e w' ⟨rfl, hb⟩; have HB := hide hb; clear hb) | (refine ⟨trivial, ?_⟩; gi_at_call 69; refine (callsIn_wide.2 (PO.out _)).mono ?_; rintro e w' ⟨rfl, hw⟩; replace hw := hw.symm; subst hw))
  have hTb := HB.out.size
  have b0 := (Boxed.new w' 3 (.int .i64 0)).alloc (.cells #[.slice aw l.length cap] 23)
  have b5 := Boxed.new (w'.alloc (.cells #[.int .i64 0] 3)) 23 (.slice aw l.length cap)
  simp only [World.size_alloc] at b5
  have hB0 : Below w'.heap.size w' ((w'.alloc (.cells #[.int .i64 0] 3)).alloc (.cells #[.slice aw l.length cap] 23)) := ((Below.refl _ w').alloc (Nat.le_refl _) _).alloc (by simp) _
  have hsz : ((w'.alloc (.cells #[.int .i64 0] 3)).alloc (.cells #[.slice aw l.length cap] 23)).heap.size = w'.heap.size + 2 := by simp
  obtain ⟨W0, hW0⟩ : ∃ W0, (w'.alloc (.cells #[.int .i64 0] 3)).alloc (.cells #[.slice aw l.length cap] 23) = W0 := ⟨_, rfl⟩
  rw [hW0] at b0 b5 hB0 hsz ⊢
  clear hW0
  have hT' := hT.below HB.out
  have hTlt := hT'.lt
  have hp1 := H.out.later HB.out
  have hp0 := hp1.later hB0
  have hglt := hp1.lt
  have hpa := goodO_pk hg
  have hll := (goodO_le hg).1
  have HP := hide hpa
  clear hpa
  refine wpIn_rangeFunc_ownH rfl (by omega) (gf := 112) (lb := #[.pointer (some ⟨w'.heap.size + 1, 0, none⟩)]) rfl trivial (enters_of Tryd.func112 (by kernel_rfl) rfl)
    (parts_stops (w := W0) 5 (w'.heap.size + 1) (by omega) hp0 (hT'.below hB0) w'.heap.size hglt (by omega) (by omega) hTlt b5.cell) belowK_t (belowK_b (by omega)) (Below.refl _ _) (fun _ => rfl)
    (fun pre W => (∃ n : Int, Boxed W w'.heap.size 3 (.int .i64 n) ∧ ((∀ p ∈ pre, pk p ≠ 0) → n = cst pre)) ∧ Below w'.heap.size w' W)
    (fun c pre W => False)
    (OwnFrom.and (fun s W W' row hs hg hr => by obtain ⟨n, h1, h2⟩ := hs; exact ⟨n, (Own.from (boxed_own w'.heap.size 3 (fun (_ : List Pt) => .int .i64 n)) _) s W W' row h1 hg hr, h2⟩) (ownFrom_below (Nat.le_refl _) (by omega)))
    (fun c => ownFrom_pure _ _)
    ⟨⟨0, b0, fun _ => rfl⟩, hB0⟩
    (fun x a' W => ∃ Bx, w'.heap.size < Bx ∧ (W.cell? ⟨Bx, 0, none⟩ = some (.int .i64 x.keep) ∧ W.cell? ⟨Bx, 1, none⟩ = some (.string x.put) ∧ W.cell? ⟨Bx, 2, none⟩ = some (.string x.drop)) ∧ a' = { tmps := #[.slice aw l.length cap, undef, .int .i64 0, .bool false, .pointer (some ⟨w'.heap.size, 0, none⟩), undef, .pointer (some ⟨Bx, 0, none⟩), .slice aw l.length cap, .bool true, .bool false, .slice aw l.length cap, .func (.func 112) #[] #[.pointer (some ⟨w'.heap.size + 1, 0, none⟩)], .int .i64 (pk x : Int), ptV x, undef, undef, undef, undef, undef, undef, undef, undef, undef, undef], defers := [] })
    (fun x a' _ X Y row hs hg hr => by obtain ⟨Bx, h1, h2, h3⟩ := hs; exact ⟨Bx, h1, ⟨cell_kept h2.1 hg (fun r e => (hr r e).2), cell_kept h2.2.1 hg (fun r e => (hr r e).2), cell_kept h2.2.2 hg (fun r e => (hr r e).2)⟩, h3⟩)
    ?assign ?body ?done ?stop
  case assign =>
    rintro li pre x W K ⟨⟨n, c0, hn⟩, hB⟩ hK
    have hbs := hB.size
    have hl4 := c0.lt
    obtain ⟨y0, y1, y2⟩ := cells3_new W (.int .i64 x.keep) (.string x.put) (.string x.drop) 30
    simp only [ptE, ptV]
    gi_wp2
    exact hK _ _ ((KeepsOthers.alloc _ _).from _) ((Below.refl _ W).alloc hbs _) ⟨⟨n, c0.alloc _, hn⟩, hB.alloc hbs _⟩ ⟨W.heap.size, hl4, ⟨y0, y1, y2⟩, rfl⟩
  case body =>
    rintro li pre x a' W hl ⟨r, hr⟩ ⟨⟨n, c0, hn⟩, hB⟩ ⟨Bx, hBx, ⟨x0, x1, x2⟩, rfl⟩ hlt
    have e0 := c0.cell
    have f0 := c0.frozen
    by_cases hall : ∀ p ∈ pre ++ [x], pk p ≠ 0
    · have hpr : ∀ p ∈ pre, pk p ≠ 0 := fun p hp => hall p (by simp [hp])
      have hx := pk_szs (hall x (by simp))
      have hc := cst_bd pre hpr
      have HN := hide (hn hpr)
      rw [← hn hpr] at hc
      clear hn hall hpr
      have hpl : pre.length ≤ 60 := by omega
      gi_wp2
      refine ⟨(KeepsOthers.setCell _ _ _).from _, (Below.refl w'.heap.size W).setCell (p := ⟨w'.heap.size, 0, none⟩) (Nat.le_refl _) _, ⟨⟨_, c0.set _, fun _ => ?_⟩, hB.setCell (p := ⟨w'.heap.size, 0, none⟩) (Nat.le_refl _) _⟩⟩
      rw [cst_snoc, HN.out]
    · have HN := hide hall
      clear hn hall
      gi_wp2
      exact ⟨(KeepsOthers.setCell _ _ _).from _, (Below.refl w'.heap.size W).setCell (p := ⟨w'.heap.size, 0, none⟩) (Nat.le_refl _) _, ⟨⟨_, c0.set _, fun hh => absurd hh HN.out⟩, hB.setCell (p := ⟨w'.heap.size, 0, none⟩) (Nat.le_refl _) _⟩⟩
  case done =>
    rintro D ys W hD rfl ⟨⟨n, c0, hn⟩, hB⟩ hK
    obtain rfl := hn HP.out
    have e0 := c0.cell
    have Hend := hide (HB.out.trans ((hB.trans (belowK_b (w := w') (Nat.le_refl _) W D _ (.deferred none) (by omega) hK rfl rfl)).mono hTb))
    gi_wp2
    refine ⟨by simp, .inl ⟨_, _, rfl, run_takeDeferred hK, ?_⟩⟩
    refine ⟨.tuple #[.int .i64 (cst ys), .bool true], ?_, rfl, Hend.out⟩
    simp [results, Tryd.f45, go_sem]
  case stop =>
    rintro D c pre W hD hpre hF hK
    exact hF.elim

set_option maxHeartbeats 2000000 in
theorem l9Cost_any {w : World} {aw : Option Addr} {g cap : Nat} {l : List Pt} (h : Pin w aw g cap l) (h60 : l.length ≤ 60) (hgp : ∀ p ∈ l, pk p ≠ 0) :
    Calls Tryd.prog 96 #[.slice aw l.length cap] w fun e w' => e = .returned (.int .i64 (cst l)) ∧ Below w.heap.size w w' := by
  have hcp := h.cap
  have H := hide h
  have HG := hide hgp
  clear h hgp
  go_enter Tryd.func96, Tryd.ntmps96
  go_wp2
  go_loopw [3, 8] (fun a i wr => ∃ k : Nat, k ≤ l.length ∧ i = .int .i64 k ∧ a = .int .i64 (cst (l.take k)) ∧ Below w.heap.size w wr) (fun _ i _ => l.length - (intOf i).toNat)
  case atStart => exact ⟨0, by omega, rfl, rfl, Below.refl _ _⟩
  case round =>
    obtain ⟨k, hk, rfl, rfl, hbel⟩ := hrel
    by_cases hlt : k < l.length
    · obtain rfl := H.out.adr hlt
      obtain ⟨c0, c1, c2⟩ := (H.out.later hbel).at'.ptat k hlt
      have b1 := cst_bd (l.take k) (fun p hp => HG.out p (List.mem_of_mem_take hp))
      have b2 := pk_szs (HG.out l[k] (List.getElem_mem hlt))
      have hl1 : (l.take k).length ≤ 60 := by rw [List.length_take]; omega
      have hs := hide (cst_snoc (l.take k) l[k])
      have ht : l.take k ++ [l[k]] = l.take (k + 1) := (List.take_succ_eq_append_getElem hlt).symm
      rw [ht] at hs
      generalize cst (l.take k) = A at *
      go_wp2
      refine ⟨⟨k + 1, by omega, by go_num, by rw [hs.out], hbel.alloc hbel.size _⟩, by simp [intOf]; omega⟩
    · obtain rfl : k = l.length := by omega
      rw [List.take_length]
      go_wp2
      go_ret
      exact ⟨rfl, hbel⟩

/-- What both answer. -/
def cstA (l : List Pt) : Int := if goodO l then cst l else 0

set_option maxHeartbeats 2000000 in
theorem costS {w : World} {aw : Option Addr} {g cap : Nat} {l : List Pt} (h : Pin w aw g cap l) :
    Calls Tryd.prog 47 #[.slice aw l.length cap] w fun e w' => e = .returned (.tuple #[.int .i64 (cstA l), .bool (goodO l)]) ∧ Below w.heap.size w w' := by
  have G := goodOpS h
  unfold cstA
  cases hg : goodO l with
  | false =>
    rw [hg] at G
    replace G := hide G
    clear h
    go_enter Tryd.func47, Tryd.ntmps47
    go_wp2_with fail
    refine G.out.mono ?_
    rintro e w' ⟨rfl, hb⟩
    go_wp2
    go_ret2
    exact ⟨rfl, hb⟩
  | true =>
    rw [hg] at G
    replace G := hide G
    have C : Hid (∀ w1, Below w.heap.size w w1 → Calls Tryd.prog 96 #[.slice aw l.length cap] w1 fun e w' => e = .returned (.int .i64 (cst l)) ∧ Below w1.heap.size w1 w') := hide (fun w1 hb => l9Cost_any (h.later hb) (goodO_le hg).1 (goodO_pk hg))
    clear h hg
    go_enter Tryd.func47, Tryd.ntmps47
    go_wp2_with fail
    refine G.out.mono ?_
    rintro e w' ⟨rfl, hb⟩
    go_wp2_with fail
    refine (C.out _ hb).mono ?_
    rintro e w2 ⟨rfl, hb2⟩
    go_wp2
    go_ret2
    exact ⟨rfl, hb.trans (hb2.mono hb.size)⟩

set_option maxRecDepth 100000 in
set_option maxHeartbeats 2000000 in
theorem costI {w : World} {aw : Option Addr} {g cap : Nat} {l : List Pt} (h : Pin w aw g cap l) (hT : Tab w) :
    Calls Tryd.prog 45 #[.slice aw l.length cap] w fun e w' => e = .returned (.tuple #[.int .i64 (cstA l), .bool (goodO l)]) ∧ Below w.heap.size w w' := by
  unfold cstA
  cases hg : goodO l with
  | true => exact costI_good h hT hg
  | false =>
    have G := goodOpI h hT
    rw [hg] at G
    replace G := hide G
    clear h hg hT
    go_enter Tryd.func45, Tryd.ntmps45
    go_wp2_with fail
    refine G.out.mono ?_
    rintro e w' ⟨rfl, hb⟩
    go_wp2
    go_ret2
    exact ⟨rfl, hb⟩
end Go.Proofs.YtojlnnlcbpjdlaaDoor
