/- The program's TransformOps: two changes beside one another. -/
import Derived.Test.YtbooongkbninhaaDoorMrg2
import Derived.Test.YtbooongkbninhaaDoorPairsM
import Derived.Deep.RegionHeld3
import Derived.Deep.Cut
import Derived.Deep.CutRange
set_option linter.unusedVariables false
namespace Go.Proofs.YtbooongkbninhaaDoor
open Go.RowKit Go.Shelf
open Doc1

/-- The pairs that are met. -/
def lgl (p : St × St) : Prop := (p.1 = z0s ∧ p.2.k = 2) ∨ (p.1.k = 2 ∧ p.2 = z0s) ∨ ((p.1.k = 1 ∨ p.1.k = 3) ∧ (p.2.k = 1 ∨ p.2.k = 3))
theorem sk_not {x : St} (h : sk x) (h2 : x.k ≠ 2) : x.k = 1 ∨ x.k = 3 := by
  rcases h with c | c | c
  · exact .inl c
  · exact absurd c h2
  · exact .inr c
theorem ctk_cons (x : St) (l : List St) : ctk (x :: l) = (if x.k = 2 then 0 else 1) + ctk l := by
  have : x :: l = [x] ++ l := rfl
  rw [this, ctk_app]
  congr 1
  unfold ctk
  split <;> simp_all
theorem prR_lgl : ∀ (n : Nat) (xs ys : List St), xs.length + ys.length = n → ctk xs = ctk ys → (∀ x ∈ xs, sk x) → (∀ y ∈ ys, sk y) → ∀ p ∈ prR xs ys, lgl p
  | n, [], ys, _, hc, _, hy, p, hp => by
    rw [prR_nil] at hp
    obtain ⟨y, hm, rfl⟩ := List.mem_map.1 hp
    refine .inl ⟨rfl, ?_⟩
    apply Classical.byContradiction
    intro c
    have h0 : ctk ys = 0 := hc.symm
    unfold ctk at h0
    have := List.eq_nil_of_length_eq_zero h0
    rw [List.filter_eq_nil_iff] at this
    exact this y hm (decide_eq_true c)
  | n, x :: xs, [], hn, hc, hx, hy, p, hp => by
    by_cases h2 : x.k = 2
    · rw [prR_put h2] at hp
      rcases List.mem_cons.1 hp with rfl | hp
      · exact .inr (.inl ⟨h2, rfl⟩)
      · obtain ⟨m, rfl⟩ : ∃ m, n = m + 1 := ⟨n - 1, by simp at hn; omega⟩
        exact prR_lgl m xs [] (by simp at hn ⊢; omega) (by rw [ctk_cons, if_pos h2] at hc; omega) (fun z hz => hx z (by simp [hz])) hy p hp
    · rw [prR, if_neg h2] at hp; cases hp
  | n, x :: xs, y :: ys, hn, hc, hx, hy, p, hp => by
    obtain ⟨m, rfl⟩ : ∃ m, n = m + 1 := ⟨n - 1, by simp at hn; omega⟩
    by_cases h2 : x.k = 2
    · rw [prR_put h2] at hp
      rcases List.mem_cons.1 hp with rfl | hp
      · exact .inr (.inl ⟨h2, rfl⟩)
      · exact prR_lgl m xs (y :: ys) (by simp at hn ⊢; omega) (by rw [ctk_cons, if_pos h2] at hc; omega) (fun z hz => hx z (by simp [hz])) hy p hp
    · by_cases h3 : y.k = 2
      · rw [prR_other h2 h3] at hp
        rcases List.mem_cons.1 hp with rfl | hp
        · exact .inl ⟨rfl, h3⟩
        · exact prR_lgl m (x :: xs) ys (by simp at hn ⊢; omega) (by rw [ctk_cons y, if_pos h3] at hc; omega) hx (fun z hz => hy z (by simp [hz])) p hp
      · rw [prR_both h2 h3] at hp
        rcases List.mem_cons.1 hp with rfl | hp
        · exact .inr (.inr ⟨sk_not (hx x (by simp)) h2, sk_not (hy y (by simp)) h3⟩)
        · obtain ⟨m', rfl⟩ : ∃ m', m = m' + 1 := ⟨m - 1, by simp at hn; omega⟩
          exact prR_lgl m' xs ys (by simp at hn ⊢; omega) (by rw [ctk_cons, ctk_cons y, if_neg h2, if_neg h3] at hc; omega) (fun z hz => hx z (by simp [hz])) (fun z hz => hy z (by simp [hz])) p hp

set_option maxRecDepth 100000 in
set_option maxHeartbeats 4000000 in
theorem transformI_bad {w : World} {aa ab : Option Addr} {ga ca gb cb : Nat} {la lb : List Pt} (ha : Pin w aa ga ca la) (hb : Pin w ab gb cb lb) (hT : Tab w) (hs : samA la lb = false) :
    Calls Tryd.prog 70 #[.slice aa la.length ca, .slice ab lb.length cb] w fun e w' => e = .returned (.tuple #[.slice none 0 0, .slice none 0 0, .bool false]) ∧ Below w.heap.size w w' := by
  have S := hide (sameI ha hb hT)
  rw [hs] at S
  generalize samK la lb = sk at *
  clear ha hb hT hs
  go_enter Tryd.func70, Tryd.ntmps70
  go_wp2_with fail
  refine S.out.mono ?_
  rintro e w1 ⟨rfl, hb1⟩
  go_wp2
  go_ret3
  exact ⟨rfl, hb1⟩

/-- What is told of two changes of one text. -/
def trK (la lb : List Pt) : Bool := goodO (gath g0 (trA (prF (stL la) (stL lb)))).out && goodO (gath g0 (trB (prF (stL la) (stL lb)))).out
theorem tb_at {w : World} {T : Nat} {t : TypeId} (h : w.heap[T]? = some (.cells tbV t)) (j : Nat) : w.cell? ⟨T, j, none⟩ = tbV[j]? := by
  rw [cell_of_row _ _ _ _ _ _ h]

set_option maxRecDepth 100000 in
set_option maxHeartbeats 8000000 in
theorem transformI {w : World} {aa ab : Option Addr} {ga ca gb cb : Nat} {la lb : List Pt} (ha : Pin w aa ga ca la) (hb : Pin w ab gb cb lb) (hT : Tab w) (hs : samA la lb = true) :
    Calls Tryd.prog 70 #[.slice aa la.length ca, .slice ab lb.length cb] w fun e w' => ∃ va vb, e = .returned (.tuple #[va, vb, .bool (trK la lb)]) ∧
      POwn w' w.heap.size va (if trK la lb then (gath g0 (trA (prF (stL la) (stL lb)))).out else []) ∧ POwn w' w.heap.size vb (if trK la lb then (gath g0 (trB (prF (stL la) (stL lb)))).out else []) ∧ Below w.heap.size w w' := by
  have S := hide (sameI ha hb hT)
  have hk : samK la lb = true := by unfold samA at hs; simp only [Bool.and_eq_true] at hs; exact hs.1
  rw [hs, hk] at S
  unfold samK at hk
  simp only [Bool.and_eq_true, decide_eq_true_eq] at hk
  obtain ⟨g1, g2, ht⟩ := hk
  have hct : ctk (stL la) = ctk (stL lb) := by
    have h1 := (stL_sums la (goodO_pk g1)).1
    have h2 := (stL_sums lb (goodO_pk g2)).1
    omega
  have hln := prF_len hct
  have s1 := st_len g1
  have s2 := st_len g2
  have hF : (prF (stL la) (stL lb)).length ≤ 2000 := by omega
  have HL : Hid (∀ p ∈ prF (stL la) (stL lb), lgl p) := hide (by rw [prF_eq hct]; exact prR_lgl _ _ _ rfl hct (fun x hx => (stL_so (goodO_pk g1) x hx).1) (fun x hx => (stL_so (goodO_pk g2) x hx).1))
  have P := hide (fun w' (h : Below w.heap.size w w') => pairsI_good (ha.later h) (hb.later h) (hT.below h) g1 g2 ht)
  have HT := hide hT
  unfold trK
  clear ha hb hs g1 g2 ht hct hln s1 s2 hT
  generalize prF (stL la) (stL lb) = F at *
  obtain ⟨xA, hxA⟩ : ∃ x, goodO (gath g0 (trA F)).out = x := ⟨_, rfl⟩
  obtain ⟨xB, hxB⟩ : ∃ x, goodO (gath g0 (trB F)).out = x := ⟨_, rfl⟩
  rw [hxA, hxB]
  have HX := hide (And.intro hxA hxB)
  clear hxA hxB
  go_enter Tryd.func70, Tryd.ntmps70
  go_wp2_with fail
  refine S.out.mono ?_
  rintro e w1 ⟨rfl, hb1⟩
  clear S
  go_wp2_with fail
  obtain ⟨W0, hW0⟩ : ∃ W0, (w1.alloc (.cells #[.slice none 0 0, .int .i64 0, .slice none 0 0, .slice none 0 0] 133)).alloc (.cells #[.slice none 0 0, .int .i64 0, .slice none 0 0, .slice none 0 0] 133) = W0 := ⟨_, rfl⟩
  have hz0 : W0.heap.size = w1.heap.size + 2 := by rw [← hW0]; simp
  have hq0 : Below w1.heap.size w1 W0 := by rw [← hW0]; exact ((Below.refl _ _).alloc (Nat.le_refl _) _).alloc (by simp) _
  have GN := hide (fun (W : World) (hb : Below W0.heap.size W0 W) => g2_new (w1 := w1) (W := W) (t := 133) (by rw [hW0]; exact hb))
  rw [hW0]
  refine (behind_any W0).mono ?_
  rintro e w2 ⟨rfl, hb2⟩
  have hz2 := hb2.size
  clear hW0
  unfold tbV
  go_wp2_with fail
  obtain ⟨W2, hW2⟩ : ∃ W2, w2.alloc (.cells tbV 149) = W2 := ⟨_, rfl⟩
  have hTb : W2.heap[w2.heap.size]? = some (.cells tbV 149) := by rw [← hW2]; exact heap_alloc_new _ _
  have hz3 : W2.heap.size = w2.heap.size + 1 := by rw [← hW2]; simp
  have hb3 : Below W0.heap.size W0 W2 := by rw [← hW2]; exact hb2.alloc hb2.size _
  unfold tbV at hW2
  rw [hW2]
  clear hW2
  have hb4 : Below w.heap.size w W2 := hb1.trans ((hq0.trans (hb3.mono (by omega))).mono hb1.size)
  refine (P.out _ hb4).mono ?_
  rintro e w5 ⟨v, rfl, ho, hb5⟩
  obtain ⟨a0, c0, rfl, -, -⟩ := own_shp ho
  have G0 := hide (GN.out w5 (hb3.trans (hb5.mono (by omega))))
  have hTb5 := (hb5.block w2.heap.size (by omega)).trans hTb
  have hz5 := hb5.size
  have hbw5 := hb4.trans (hb5.mono hb4.size)
  have HB := hide hbw5
  have HO := hide ho
  have hz1 := hb1.size
  clear GN P hq0 hb2 hb3 hb4 hb5 hTb ho hbw5 hb1
  go_wp2
  go_loopw [37] (fun i wr => ∃ k : Nat, k ≤ F.length ∧ i = .int .i64 k ∧ Hid (G2 w5 w1.heap.size (w1.heap.size + 1) (trA (F.take k)) (trB (F.take k)) wr)) (fun i _ => F.length - (intOf i).toNat)
  case atStart => exact ⟨0, by omega, rfl, G0⟩
  case round =>
    obtain ⟨k, hk, rfl, HG⟩ := hrel
    clear G0
    by_cases hlt : k < F.length
    · obtain ⟨g, cp, ev, -, -, hg1, hg2, hcl, -⟩ := own_cat HO.out (by omega)
      cases ev
      obtain ⟨p0, p1, p2, p3⟩ := prC_at F k hlt
      have sm : wr.heap[g]? = w5.heap[g]? := HG.out.same hg2 (by omega) (by omega)
      have q0 := (World.cell?_of_block sm).trans (hcl _ _ p0)
      have q1 := (World.cell?_of_block sm).trans (hcl _ _ p1)
      have q2 := (World.cell?_of_block sm).trans (hcl _ _ p2)
      have q3 := (World.cell?_of_block sm).trans (hcl _ _ p3)
      have hTr := (HG.out.same (k := w2.heap.size) (by omega) (by omega) (by omega)).trans hTb5
      have hzr := HG.out.size
      have hlg := HL.out F[k] (List.getElem_mem hlt)
      have eA : trA (F.take (k + 1)) = trA (F.take k) ++ bhS F[k].1 F[k].2 := by rw [List.take_succ_eq_append_getElem hlt, trA_snoc]
      have eB : trB (F.take (k + 1)) = trB (F.take k) ++ bhS F[k].2 F[k].1 := by rw [List.take_succ_eq_append_getElem hlt, trB_snoc]
      have lA : (trA (F.take k)).length ≤ 100000 := by
        have := trA_len (F.take k)
        rw [List.length_take] at this
        omega
      have lB : (trB (F.take k)).length ≤ 100000 := by
        have := trB_len (F.take k)
        rw [List.length_take] at this
        omega
      clear hcl p0 p1 p2 p3 sm
      obtain ⟨pq, hpq⟩ : ∃ pq, F[k] = pq := ⟨_, rfl⟩
      rw [hpq] at q0 q1 q2 q3 hlg eA eB
      clear hpq
      obtain ⟨⟨k1, c1⟩, ⟨k2, c2⟩⟩ := pq
      simp only at q0 q1 q2 q3 eA eB
      generalize trA (F.take k) = SA at *
      generalize trB (F.take k) = SB at *
      have EAB := hide (And.intro eA eB)
      clear eA eB
      unfold lgl z0s at hlg
      simp only [St.mk.injEq] at hlg
      have t2 : wr.cell? ⟨w2.heap.size, 2, none⟩ = some (.func (.func 119) #[] #[]) := tb_at hTr 2
      have t5 : wr.cell? ⟨w2.heap.size, 5, none⟩ = some (.func (.func 93) #[] #[]) := tb_at hTr 5
      have t7 : wr.cell? ⟨w2.heap.size, 7, none⟩ = some (.func (.func 120) #[] #[]) := tb_at hTr 7
      have t8 : wr.cell? ⟨w2.heap.size, 8, none⟩ = some (.func (.func 93) #[] #[]) := tb_at hTr 8
      have t13 : wr.cell? ⟨w2.heap.size, 13, none⟩ = some (.func (.func 93) #[] #[]) := tb_at hTr 13
      have t15 : wr.cell? ⟨w2.heap.size, 15, none⟩ = some (.func (.func 120) #[] #[]) := tb_at hTr 15
      clear hTr
      rcases hlg with h | h | h
      · obtain ⟨⟨rfl, rfl⟩, rfl⟩ := h
        have hbs : bhS ⟨0, 0⟩ ⟨2, c2⟩ = [⟨1, 0⟩] := rfl
        have hbt : bhS ⟨2, c2⟩ ⟨0, 0⟩ = [⟨2, c2⟩] := rfl
        rw [hbs, hbt] at EAB
        clear hbs hbt
        have hBX : Below wr.heap.size wr (wr.alloc (.cells #[.int .i64 0, .int .u8 0, .int .i64 2, .int .u8 (c2.toNat : Int)] 145)) := (Below.refl _ _).alloc (Nat.le_refl _) _
        go_wp2_with fail
        obtain ⟨W1, hW1⟩ : ∃ W1, wr.alloc (.cells #[.int .i64 0, .int .u8 0, .int .i64 2, .int .u8 (c2.toNat : Int)] 145) = W1 := ⟨_, rfl⟩
        have hXb : W1.heap[wr.heap.size]? = some (.cells #[.int .i64 0, .int .u8 0, .int .i64 2, .int .u8 (c2.toNat : Int)] 145) := by rw [← hW1]; exact heap_alloc_new _ _
        have tx : W1.cell? ⟨w2.heap.size, 2, none⟩ = some (.func (.func 119) #[] #[]) := by rw [← hW1]; exact (World.cell?_of_block (Below.heap_alloc wr _ _ (show w2.heap.size < wr.heap.size by omega))).trans t2
        have hz1' : W1.heap.size = wr.heap.size + 1 := by rw [← hW1]; simp
        rw [hW1] at hBX ⊢
        have b0 := cell_of_row W1 wr.heap.size 0 _ _ _ hXb
        have b1 := cell_of_row W1 wr.heap.size 1 _ _ _ hXb
        have b2 := cell_of_row W1 wr.heap.size 2 _ _ _ hXb
        have b3 := cell_of_row W1 wr.heap.size 3 _ _ _ hXb
        simp only [List.getElem?_toArray, List.getElem?_cons_zero, List.getElem?_cons_succ] at b0 b1 b2 b3
        clear hW1 t2 t5 t7 t8 t13 t15 q0 q1 q2 q3
        have KX : Hid (∀ (W : World) (SA' SB' : List St), G2 w5 w1.heap.size (w1.heap.size + 1) SA' SB' W → W.heap[wr.heap.size]? = W1.heap[wr.heap.size]? → W.cell? ⟨wr.heap.size, 0, none⟩ = some (.int .i64 0) ∧ W.cell? ⟨wr.heap.size, 1, none⟩ = some (.int .u8 0) ∧ W.cell? ⟨wr.heap.size, 2, none⟩ = some (.int .i64 2) ∧ W.cell? ⟨wr.heap.size, 3, none⟩ = some (.int .u8 (c2.toNat : Int)) ∧ W.cell? ⟨w2.heap.size, 2, none⟩ = some (.func (.func 119) #[] #[])) := hide (fun W SA' SB' h1 h2 => by
          have e := h2.trans hXb
          have f := (h1.same (k := w2.heap.size) (by omega) (by omega) (by omega)).trans hTb5
          refine ⟨?_, ?_, ?_, ?_, tb_at f 2⟩
          · rw [cell_of_row _ _ _ _ _ _ e]; rfl
          · rw [cell_of_row _ _ _ _ _ _ e]; rfl
          · rw [cell_of_row _ _ _ _ _ _ e]; rfl
          · rw [cell_of_row _ _ _ _ _ _ e]; rfl
          )
        have KY : Hid (∀ (W : World) (SA' SB' : List St), G2 w5 w1.heap.size (w1.heap.size + 1) SA' SB' W → W.heap[wr.heap.size]? = W1.heap[wr.heap.size]? → W.cell? ⟨wr.heap.size, 0, none⟩ = some (.int .i64 0) ∧ W.cell? ⟨wr.heap.size, 1, none⟩ = some (.int .u8 0) ∧ W.cell? ⟨wr.heap.size, 2, none⟩ = some (.int .i64 2) ∧ W.cell? ⟨wr.heap.size, 3, none⟩ = some (.int .u8 (c2.toNat : Int)) ∧ W.cell? ⟨w2.heap.size, 8, none⟩ = some (.func (.func 93) #[] #[])) := hide (fun W SA' SB' h1 h2 => by
          have e := h2.trans hXb
          have f := (h1.same (k := w2.heap.size) (by omega) (by omega) (by omega)).trans hTb5
          refine ⟨?_, ?_, ?_, ?_, tb_at f 8⟩
          · rw [cell_of_row _ _ _ _ _ _ e]; rfl
          · rw [cell_of_row _ _ _ _ _ _ e]; rfl
          · rw [cell_of_row _ _ _ _ _ _ e]; rfl
          · rw [cell_of_row _ _ _ _ _ _ e]; rfl
          )
        have AX := hide (show Calls Tryd.prog _ #[_, .agg #[.int .i64 0, .int .u8 0]] W1.drew _ from (HG.out.mark (b := wr.heap.size) hBX.drew (Nat.le_refl _)).addKeep (show wr.heap.size < W1.heap.size by omega) ⟨0, 0⟩ lA)
        go_region_held3 (fun w' => w'.cell? ⟨wr.heap.size, 0, none⟩ = some (.int .i64 0) ∧ w'.cell? ⟨wr.heap.size, 1, none⟩ = some (.int .u8 0) ∧ w'.cell? ⟨wr.heap.size, 2, none⟩ = some (.int .i64 2) ∧ w'.cell? ⟨wr.heap.size, 3, none⟩ = some (.int .u8 (c2.toNat : Int)) ∧ w'.cell? ⟨w2.heap.size, 2, none⟩ = some (.func (.func 119) #[] #[]))
          (first | assumption | exact ⟨b0, b1, b2, b3, tx⟩ | exact KX.out _ _ _ hG7.all hs7)
          ((go_at_call 119; refine AX.out.mono ?_; rintro e w7 ⟨rfl, hG7, hs7, hz7⟩))
        obtain ⟨y0, y1, y2, y3, ty⟩ := KY.out _ _ _ hG7.all hs7
        have hz7' : W1.heap.size ≤ w7.heap.size := hz7
        have AY := hide (show Calls Tryd.prog _ #[_, .agg #[.int .i64 2, .int .u8 (c2.toNat : Int)]] w7.drew _ from (hG7.up (Below.refl _ _).drew).swap.add (show wr.heap.size < w7.heap.size by omega) ⟨2, c2⟩ (.inr (.inl rfl)) lB)
        replace hs7 : w7.heap[wr.heap.size]? = W1.heap[wr.heap.size]? := hs7
        clear AX b0 b1 b2 b3 tx KX hG7 HG hXb
        go_wp2_with fail
        go_region_held3 (fun w' => w'.cell? ⟨wr.heap.size, 0, none⟩ = some (.int .i64 0) ∧ w'.cell? ⟨wr.heap.size, 1, none⟩ = some (.int .u8 0) ∧ w'.cell? ⟨wr.heap.size, 2, none⟩ = some (.int .i64 2) ∧ w'.cell? ⟨wr.heap.size, 3, none⟩ = some (.int .u8 (c2.toNat : Int)) ∧ w'.cell? ⟨w2.heap.size, 8, none⟩ = some (.func (.func 93) #[] #[]))
          (first | assumption | exact ⟨y0, y1, y2, y3, ty⟩ | exact KY.out _ _ _ hG8.all.swap (hs8.trans hs7))
          ((go_at_call 93; refine AY.out.mono ?_; rintro e w8 ⟨rfl, hG8, hs8, hz8⟩))
        have HG8 := hide hG8.all.swap
        clear AY y0 y1 y2 y3 ty KY hG8 hs8 hs7
        go_wp2
        go_roundw
        case rel => exact ⟨k + 1, by omega, by go_num, by rw [EAB.out.1, EAB.out.2]; first | exact HG8 | (simp only [List.append_nil]; exact HG8)⟩
        case measure => simp [intOf]; omega
      · obtain ⟨rfl, rfl, rfl⟩ := h
        have hbs : bhS ⟨2, c1⟩ ⟨0, 0⟩ = [⟨2, c1⟩] := rfl
        have hbt : bhS ⟨0, 0⟩ ⟨2, c1⟩ = [⟨1, 0⟩] := rfl
        rw [hbs, hbt] at EAB
        clear hbs hbt
        have hBX : Below wr.heap.size wr (wr.alloc (.cells #[.int .i64 2, .int .u8 (c1.toNat : Int), .int .i64 0, .int .u8 0] 145)) := (Below.refl _ _).alloc (Nat.le_refl _) _
        go_wp2_with fail
        obtain ⟨W1, hW1⟩ : ∃ W1, wr.alloc (.cells #[.int .i64 2, .int .u8 (c1.toNat : Int), .int .i64 0, .int .u8 0] 145) = W1 := ⟨_, rfl⟩
        have hXb : W1.heap[wr.heap.size]? = some (.cells #[.int .i64 2, .int .u8 (c1.toNat : Int), .int .i64 0, .int .u8 0] 145) := by rw [← hW1]; exact heap_alloc_new _ _
        have tx : W1.cell? ⟨w2.heap.size, 8, none⟩ = some (.func (.func 93) #[] #[]) := by rw [← hW1]; exact (World.cell?_of_block (Below.heap_alloc wr _ _ (show w2.heap.size < wr.heap.size by omega))).trans t8
        have hz1' : W1.heap.size = wr.heap.size + 1 := by rw [← hW1]; simp
        rw [hW1] at hBX ⊢
        have b0 := cell_of_row W1 wr.heap.size 0 _ _ _ hXb
        have b1 := cell_of_row W1 wr.heap.size 1 _ _ _ hXb
        have b2 := cell_of_row W1 wr.heap.size 2 _ _ _ hXb
        have b3 := cell_of_row W1 wr.heap.size 3 _ _ _ hXb
        simp only [List.getElem?_toArray, List.getElem?_cons_zero, List.getElem?_cons_succ] at b0 b1 b2 b3
        clear hW1 t2 t5 t7 t8 t13 t15 q0 q1 q2 q3
        have KX : Hid (∀ (W : World) (SA' SB' : List St), G2 w5 w1.heap.size (w1.heap.size + 1) SA' SB' W → W.heap[wr.heap.size]? = W1.heap[wr.heap.size]? → W.cell? ⟨wr.heap.size, 0, none⟩ = some (.int .i64 2) ∧ W.cell? ⟨wr.heap.size, 1, none⟩ = some (.int .u8 (c1.toNat : Int)) ∧ W.cell? ⟨wr.heap.size, 2, none⟩ = some (.int .i64 0) ∧ W.cell? ⟨wr.heap.size, 3, none⟩ = some (.int .u8 0) ∧ W.cell? ⟨w2.heap.size, 8, none⟩ = some (.func (.func 93) #[] #[])) := hide (fun W SA' SB' h1 h2 => by
          have e := h2.trans hXb
          have f := (h1.same (k := w2.heap.size) (by omega) (by omega) (by omega)).trans hTb5
          refine ⟨?_, ?_, ?_, ?_, tb_at f 8⟩
          · rw [cell_of_row _ _ _ _ _ _ e]; rfl
          · rw [cell_of_row _ _ _ _ _ _ e]; rfl
          · rw [cell_of_row _ _ _ _ _ _ e]; rfl
          · rw [cell_of_row _ _ _ _ _ _ e]; rfl
          )
        have KY : Hid (∀ (W : World) (SA' SB' : List St), G2 w5 w1.heap.size (w1.heap.size + 1) SA' SB' W → W.heap[wr.heap.size]? = W1.heap[wr.heap.size]? → W.cell? ⟨wr.heap.size, 0, none⟩ = some (.int .i64 2) ∧ W.cell? ⟨wr.heap.size, 1, none⟩ = some (.int .u8 (c1.toNat : Int)) ∧ W.cell? ⟨wr.heap.size, 2, none⟩ = some (.int .i64 0) ∧ W.cell? ⟨wr.heap.size, 3, none⟩ = some (.int .u8 0) ∧ W.cell? ⟨w2.heap.size, 2, none⟩ = some (.func (.func 119) #[] #[])) := hide (fun W SA' SB' h1 h2 => by
          have e := h2.trans hXb
          have f := (h1.same (k := w2.heap.size) (by omega) (by omega) (by omega)).trans hTb5
          refine ⟨?_, ?_, ?_, ?_, tb_at f 2⟩
          · rw [cell_of_row _ _ _ _ _ _ e]; rfl
          · rw [cell_of_row _ _ _ _ _ _ e]; rfl
          · rw [cell_of_row _ _ _ _ _ _ e]; rfl
          · rw [cell_of_row _ _ _ _ _ _ e]; rfl
          )
        have AX := hide (show Calls Tryd.prog _ #[_, .agg #[.int .i64 2, .int .u8 (c1.toNat : Int)]] W1.drew _ from (HG.out.mark (b := wr.heap.size) hBX.drew (Nat.le_refl _)).add (show wr.heap.size < W1.heap.size by omega) ⟨2, c1⟩ (.inr (.inl rfl)) lA)
        go_region_held3 (fun w' => w'.cell? ⟨wr.heap.size, 0, none⟩ = some (.int .i64 2) ∧ w'.cell? ⟨wr.heap.size, 1, none⟩ = some (.int .u8 (c1.toNat : Int)) ∧ w'.cell? ⟨wr.heap.size, 2, none⟩ = some (.int .i64 0) ∧ w'.cell? ⟨wr.heap.size, 3, none⟩ = some (.int .u8 0) ∧ w'.cell? ⟨w2.heap.size, 8, none⟩ = some (.func (.func 93) #[] #[]))
          (first | assumption | exact ⟨b0, b1, b2, b3, tx⟩ | exact KX.out _ _ _ hG7.all hs7)
          ((go_at_call 93; refine AX.out.mono ?_; rintro e w7 ⟨rfl, hG7, hs7, hz7⟩))
        obtain ⟨y0, y1, y2, y3, ty⟩ := KY.out _ _ _ hG7.all hs7
        have hz7' : W1.heap.size ≤ w7.heap.size := hz7
        have AY := hide (show Calls Tryd.prog _ #[_, .agg #[.int .i64 0, .int .u8 0]] w7.drew _ from (hG7.up (Below.refl _ _).drew).swap.addKeep (show wr.heap.size < w7.heap.size by omega) ⟨0, 0⟩ lB)
        replace hs7 : w7.heap[wr.heap.size]? = W1.heap[wr.heap.size]? := hs7
        clear AX b0 b1 b2 b3 tx KX hG7 HG hXb
        go_wp2_with fail
        go_region_held3 (fun w' => w'.cell? ⟨wr.heap.size, 0, none⟩ = some (.int .i64 2) ∧ w'.cell? ⟨wr.heap.size, 1, none⟩ = some (.int .u8 (c1.toNat : Int)) ∧ w'.cell? ⟨wr.heap.size, 2, none⟩ = some (.int .i64 0) ∧ w'.cell? ⟨wr.heap.size, 3, none⟩ = some (.int .u8 0) ∧ w'.cell? ⟨w2.heap.size, 2, none⟩ = some (.func (.func 119) #[] #[]))
          (first | assumption | exact ⟨y0, y1, y2, y3, ty⟩ | exact KY.out _ _ _ hG8.all.swap (hs8.trans hs7))
          ((go_at_call 119; refine AY.out.mono ?_; rintro e w8 ⟨rfl, hG8, hs8, hz8⟩))
        have HG8 := hide hG8.all.swap
        clear AY y0 y1 y2 y3 ty KY hG8 hs8 hs7
        go_wp2
        go_roundw
        case rel => exact ⟨k + 1, by omega, by go_num, by rw [EAB.out.1, EAB.out.2]; first | exact HG8 | (simp only [List.append_nil]; exact HG8)⟩
        case measure => simp [intOf]; omega
      · obtain ⟨h1, h2⟩ := h
        rcases h1 with h1 | h1 <;> rcases h2 with h2 | h2
        · subst h1 h2
          have hbs : bhS ⟨1, c1⟩ ⟨1, c2⟩ = [⟨1, c1⟩] := rfl
          have hbt : bhS ⟨1, c2⟩ ⟨1, c1⟩ = [⟨1, c2⟩] := rfl
          rw [hbs, hbt] at EAB
          clear hbs hbt
          have hBX : Below wr.heap.size wr (wr.alloc (.cells #[.int .i64 1, .int .u8 (c1.toNat : Int), .int .i64 1, .int .u8 (c2.toNat : Int)] 145)) := (Below.refl _ _).alloc (Nat.le_refl _) _
          go_wp2_with fail
          obtain ⟨W1, hW1⟩ : ∃ W1, wr.alloc (.cells #[.int .i64 1, .int .u8 (c1.toNat : Int), .int .i64 1, .int .u8 (c2.toNat : Int)] 145) = W1 := ⟨_, rfl⟩
          have hXb : W1.heap[wr.heap.size]? = some (.cells #[.int .i64 1, .int .u8 (c1.toNat : Int), .int .i64 1, .int .u8 (c2.toNat : Int)] 145) := by rw [← hW1]; exact heap_alloc_new _ _
          have tx : W1.cell? ⟨w2.heap.size, 5, none⟩ = some (.func (.func 93) #[] #[]) := by rw [← hW1]; exact (World.cell?_of_block (Below.heap_alloc wr _ _ (show w2.heap.size < wr.heap.size by omega))).trans t5
          have hz1' : W1.heap.size = wr.heap.size + 1 := by rw [← hW1]; simp
          rw [hW1] at hBX ⊢
          have b0 := cell_of_row W1 wr.heap.size 0 _ _ _ hXb
          have b1 := cell_of_row W1 wr.heap.size 1 _ _ _ hXb
          have b2 := cell_of_row W1 wr.heap.size 2 _ _ _ hXb
          have b3 := cell_of_row W1 wr.heap.size 3 _ _ _ hXb
          simp only [List.getElem?_toArray, List.getElem?_cons_zero, List.getElem?_cons_succ] at b0 b1 b2 b3
          clear hW1 t2 t5 t7 t8 t13 t15 q0 q1 q2 q3
          have KX : Hid (∀ (W : World) (SA' SB' : List St), G2 w5 w1.heap.size (w1.heap.size + 1) SA' SB' W → W.heap[wr.heap.size]? = W1.heap[wr.heap.size]? → W.cell? ⟨wr.heap.size, 0, none⟩ = some (.int .i64 1) ∧ W.cell? ⟨wr.heap.size, 1, none⟩ = some (.int .u8 (c1.toNat : Int)) ∧ W.cell? ⟨wr.heap.size, 2, none⟩ = some (.int .i64 1) ∧ W.cell? ⟨wr.heap.size, 3, none⟩ = some (.int .u8 (c2.toNat : Int)) ∧ W.cell? ⟨w2.heap.size, 5, none⟩ = some (.func (.func 93) #[] #[])) := hide (fun W SA' SB' h1 h2 => by
            have e := h2.trans hXb
            have f := (h1.same (k := w2.heap.size) (by omega) (by omega) (by omega)).trans hTb5
            refine ⟨?_, ?_, ?_, ?_, tb_at f 5⟩
            · rw [cell_of_row _ _ _ _ _ _ e]; rfl
            · rw [cell_of_row _ _ _ _ _ _ e]; rfl
            · rw [cell_of_row _ _ _ _ _ _ e]; rfl
            · rw [cell_of_row _ _ _ _ _ _ e]; rfl
            )
          have KY : Hid (∀ (W : World) (SA' SB' : List St), G2 w5 w1.heap.size (w1.heap.size + 1) SA' SB' W → W.heap[wr.heap.size]? = W1.heap[wr.heap.size]? → W.cell? ⟨wr.heap.size, 0, none⟩ = some (.int .i64 1) ∧ W.cell? ⟨wr.heap.size, 1, none⟩ = some (.int .u8 (c1.toNat : Int)) ∧ W.cell? ⟨wr.heap.size, 2, none⟩ = some (.int .i64 1) ∧ W.cell? ⟨wr.heap.size, 3, none⟩ = some (.int .u8 (c2.toNat : Int)) ∧ W.cell? ⟨w2.heap.size, 5, none⟩ = some (.func (.func 93) #[] #[])) := hide (fun W SA' SB' h1 h2 => by
            have e := h2.trans hXb
            have f := (h1.same (k := w2.heap.size) (by omega) (by omega) (by omega)).trans hTb5
            refine ⟨?_, ?_, ?_, ?_, tb_at f 5⟩
            · rw [cell_of_row _ _ _ _ _ _ e]; rfl
            · rw [cell_of_row _ _ _ _ _ _ e]; rfl
            · rw [cell_of_row _ _ _ _ _ _ e]; rfl
            · rw [cell_of_row _ _ _ _ _ _ e]; rfl
            )
          have AX := hide (show Calls Tryd.prog _ #[_, .agg #[.int .i64 1, .int .u8 (c1.toNat : Int)]] W1.drew _ from (HG.out.mark (b := wr.heap.size) hBX.drew (Nat.le_refl _)).add (show wr.heap.size < W1.heap.size by omega) ⟨1, c1⟩ (.inl rfl) lA)
          go_region_held3 (fun w' => w'.cell? ⟨wr.heap.size, 0, none⟩ = some (.int .i64 1) ∧ w'.cell? ⟨wr.heap.size, 1, none⟩ = some (.int .u8 (c1.toNat : Int)) ∧ w'.cell? ⟨wr.heap.size, 2, none⟩ = some (.int .i64 1) ∧ w'.cell? ⟨wr.heap.size, 3, none⟩ = some (.int .u8 (c2.toNat : Int)) ∧ w'.cell? ⟨w2.heap.size, 5, none⟩ = some (.func (.func 93) #[] #[]))
            (first | assumption | exact ⟨b0, b1, b2, b3, tx⟩ | exact KX.out _ _ _ hG7.all hs7)
            ((go_at_call 93; refine AX.out.mono ?_; rintro e w7 ⟨rfl, hG7, hs7, hz7⟩))
          obtain ⟨y0, y1, y2, y3, ty⟩ := KY.out _ _ _ hG7.all hs7
          have hz7' : W1.heap.size ≤ w7.heap.size := hz7
          have AY := hide (show Calls Tryd.prog _ #[_, .agg #[.int .i64 1, .int .u8 (c2.toNat : Int)]] w7.drew _ from (hG7.up (Below.refl _ _).drew).swap.add (show wr.heap.size < w7.heap.size by omega) ⟨1, c2⟩ (.inl rfl) lB)
          replace hs7 : w7.heap[wr.heap.size]? = W1.heap[wr.heap.size]? := hs7
          clear AX b0 b1 b2 b3 tx KX hG7 HG hXb
          go_wp2_with fail
          go_region_held3 (fun w' => w'.cell? ⟨wr.heap.size, 0, none⟩ = some (.int .i64 1) ∧ w'.cell? ⟨wr.heap.size, 1, none⟩ = some (.int .u8 (c1.toNat : Int)) ∧ w'.cell? ⟨wr.heap.size, 2, none⟩ = some (.int .i64 1) ∧ w'.cell? ⟨wr.heap.size, 3, none⟩ = some (.int .u8 (c2.toNat : Int)) ∧ w'.cell? ⟨w2.heap.size, 5, none⟩ = some (.func (.func 93) #[] #[]))
            (first | assumption | exact ⟨y0, y1, y2, y3, ty⟩ | exact KY.out _ _ _ hG8.all.swap (hs8.trans hs7))
            ((go_at_call 93; refine AY.out.mono ?_; rintro e w8 ⟨rfl, hG8, hs8, hz8⟩))
          have HG8 := hide hG8.all.swap
          clear AY y0 y1 y2 y3 ty KY hG8 hs8 hs7
          go_wp2
          go_roundw
          case rel => exact ⟨k + 1, by omega, by go_num, by rw [EAB.out.1, EAB.out.2]; first | exact HG8 | (simp only [List.append_nil]; exact HG8)⟩
          case measure => simp [intOf]; omega
        · subst h1 h2
          have hbs : bhS ⟨1, c1⟩ ⟨3, c2⟩ = [] := rfl
          have hbt : bhS ⟨3, c2⟩ ⟨1, c1⟩ = [⟨3, c2⟩] := rfl
          rw [hbs, hbt] at EAB
          clear hbs hbt
          have hBX : Below wr.heap.size wr (wr.alloc (.cells #[.int .i64 1, .int .u8 (c1.toNat : Int), .int .i64 3, .int .u8 (c2.toNat : Int)] 145)) := (Below.refl _ _).alloc (Nat.le_refl _) _
          go_wp2_with fail
          obtain ⟨W1, hW1⟩ : ∃ W1, wr.alloc (.cells #[.int .i64 1, .int .u8 (c1.toNat : Int), .int .i64 3, .int .u8 (c2.toNat : Int)] 145) = W1 := ⟨_, rfl⟩
          have hXb : W1.heap[wr.heap.size]? = some (.cells #[.int .i64 1, .int .u8 (c1.toNat : Int), .int .i64 3, .int .u8 (c2.toNat : Int)] 145) := by rw [← hW1]; exact heap_alloc_new _ _
          have tx : W1.cell? ⟨w2.heap.size, 7, none⟩ = some (.func (.func 120) #[] #[]) := by rw [← hW1]; exact (World.cell?_of_block (Below.heap_alloc wr _ _ (show w2.heap.size < wr.heap.size by omega))).trans t7
          have hz1' : W1.heap.size = wr.heap.size + 1 := by rw [← hW1]; simp
          rw [hW1] at hBX ⊢
          have b0 := cell_of_row W1 wr.heap.size 0 _ _ _ hXb
          have b1 := cell_of_row W1 wr.heap.size 1 _ _ _ hXb
          have b2 := cell_of_row W1 wr.heap.size 2 _ _ _ hXb
          have b3 := cell_of_row W1 wr.heap.size 3 _ _ _ hXb
          simp only [List.getElem?_toArray, List.getElem?_cons_zero, List.getElem?_cons_succ] at b0 b1 b2 b3
          clear hW1 t2 t5 t7 t8 t13 t15 q0 q1 q2 q3
          have KX : Hid (∀ (W : World) (SA' SB' : List St), G2 w5 w1.heap.size (w1.heap.size + 1) SA' SB' W → W.heap[wr.heap.size]? = W1.heap[wr.heap.size]? → W.cell? ⟨wr.heap.size, 0, none⟩ = some (.int .i64 1) ∧ W.cell? ⟨wr.heap.size, 1, none⟩ = some (.int .u8 (c1.toNat : Int)) ∧ W.cell? ⟨wr.heap.size, 2, none⟩ = some (.int .i64 3) ∧ W.cell? ⟨wr.heap.size, 3, none⟩ = some (.int .u8 (c2.toNat : Int)) ∧ W.cell? ⟨w2.heap.size, 7, none⟩ = some (.func (.func 120) #[] #[])) := hide (fun W SA' SB' h1 h2 => by
            have e := h2.trans hXb
            have f := (h1.same (k := w2.heap.size) (by omega) (by omega) (by omega)).trans hTb5
            refine ⟨?_, ?_, ?_, ?_, tb_at f 7⟩
            · rw [cell_of_row _ _ _ _ _ _ e]; rfl
            · rw [cell_of_row _ _ _ _ _ _ e]; rfl
            · rw [cell_of_row _ _ _ _ _ _ e]; rfl
            · rw [cell_of_row _ _ _ _ _ _ e]; rfl
            )
          have KY : Hid (∀ (W : World) (SA' SB' : List St), G2 w5 w1.heap.size (w1.heap.size + 1) SA' SB' W → W.heap[wr.heap.size]? = W1.heap[wr.heap.size]? → W.cell? ⟨wr.heap.size, 0, none⟩ = some (.int .i64 1) ∧ W.cell? ⟨wr.heap.size, 1, none⟩ = some (.int .u8 (c1.toNat : Int)) ∧ W.cell? ⟨wr.heap.size, 2, none⟩ = some (.int .i64 3) ∧ W.cell? ⟨wr.heap.size, 3, none⟩ = some (.int .u8 (c2.toNat : Int)) ∧ W.cell? ⟨w2.heap.size, 13, none⟩ = some (.func (.func 93) #[] #[])) := hide (fun W SA' SB' h1 h2 => by
            have e := h2.trans hXb
            have f := (h1.same (k := w2.heap.size) (by omega) (by omega) (by omega)).trans hTb5
            refine ⟨?_, ?_, ?_, ?_, tb_at f 13⟩
            · rw [cell_of_row _ _ _ _ _ _ e]; rfl
            · rw [cell_of_row _ _ _ _ _ _ e]; rfl
            · rw [cell_of_row _ _ _ _ _ _ e]; rfl
            · rw [cell_of_row _ _ _ _ _ _ e]; rfl
            )
          have AX := hide (show Calls Tryd.prog _ #[_, .agg #[.int .i64 1, .int .u8 (c1.toNat : Int)]] W1.drew _ from (HG.out.mark (b := wr.heap.size) hBX.drew (Nat.le_refl _)).addNothing (show wr.heap.size < W1.heap.size by omega) ⟨1, c1⟩)
          go_region_held3 (fun w' => w'.cell? ⟨wr.heap.size, 0, none⟩ = some (.int .i64 1) ∧ w'.cell? ⟨wr.heap.size, 1, none⟩ = some (.int .u8 (c1.toNat : Int)) ∧ w'.cell? ⟨wr.heap.size, 2, none⟩ = some (.int .i64 3) ∧ w'.cell? ⟨wr.heap.size, 3, none⟩ = some (.int .u8 (c2.toNat : Int)) ∧ w'.cell? ⟨w2.heap.size, 7, none⟩ = some (.func (.func 120) #[] #[]))
            (first | assumption | exact ⟨b0, b1, b2, b3, tx⟩ | exact KX.out _ _ _ hG7.all hs7)
            ((go_at_call 120; refine AX.out.mono ?_; rintro e w7 ⟨rfl, hG7, hs7, hz7⟩))
          obtain ⟨y0, y1, y2, y3, ty⟩ := KY.out _ _ _ hG7.all hs7
          have hz7' : W1.heap.size ≤ w7.heap.size := hz7
          have AY := hide (show Calls Tryd.prog _ #[_, .agg #[.int .i64 3, .int .u8 (c2.toNat : Int)]] w7.drew _ from (hG7.up (Below.refl _ _).drew).swap.add (show wr.heap.size < w7.heap.size by omega) ⟨3, c2⟩ (.inr (.inr rfl)) lB)
          replace hs7 : w7.heap[wr.heap.size]? = W1.heap[wr.heap.size]? := hs7
          clear AX b0 b1 b2 b3 tx KX hG7 HG hXb
          go_wp2_with fail
          go_region_held3 (fun w' => w'.cell? ⟨wr.heap.size, 0, none⟩ = some (.int .i64 1) ∧ w'.cell? ⟨wr.heap.size, 1, none⟩ = some (.int .u8 (c1.toNat : Int)) ∧ w'.cell? ⟨wr.heap.size, 2, none⟩ = some (.int .i64 3) ∧ w'.cell? ⟨wr.heap.size, 3, none⟩ = some (.int .u8 (c2.toNat : Int)) ∧ w'.cell? ⟨w2.heap.size, 13, none⟩ = some (.func (.func 93) #[] #[]))
            (first | assumption | exact ⟨y0, y1, y2, y3, ty⟩ | exact KY.out _ _ _ hG8.all.swap (hs8.trans hs7))
            ((go_at_call 93; refine AY.out.mono ?_; rintro e w8 ⟨rfl, hG8, hs8, hz8⟩))
          have HG8 := hide hG8.all.swap
          clear AY y0 y1 y2 y3 ty KY hG8 hs8 hs7
          go_wp2
          go_roundw
          case rel => exact ⟨k + 1, by omega, by go_num, by rw [EAB.out.1, EAB.out.2]; first | exact HG8 | (simp only [List.append_nil]; exact HG8)⟩
          case measure => simp [intOf]; omega
        · subst h1 h2
          have hbs : bhS ⟨3, c1⟩ ⟨1, c2⟩ = [⟨3, c1⟩] := rfl
          have hbt : bhS ⟨1, c2⟩ ⟨3, c1⟩ = [] := rfl
          rw [hbs, hbt] at EAB
          clear hbs hbt
          have hBX : Below wr.heap.size wr (wr.alloc (.cells #[.int .i64 3, .int .u8 (c1.toNat : Int), .int .i64 1, .int .u8 (c2.toNat : Int)] 145)) := (Below.refl _ _).alloc (Nat.le_refl _) _
          go_wp2_with fail
          obtain ⟨W1, hW1⟩ : ∃ W1, wr.alloc (.cells #[.int .i64 3, .int .u8 (c1.toNat : Int), .int .i64 1, .int .u8 (c2.toNat : Int)] 145) = W1 := ⟨_, rfl⟩
          have hXb : W1.heap[wr.heap.size]? = some (.cells #[.int .i64 3, .int .u8 (c1.toNat : Int), .int .i64 1, .int .u8 (c2.toNat : Int)] 145) := by rw [← hW1]; exact heap_alloc_new _ _
          have tx : W1.cell? ⟨w2.heap.size, 13, none⟩ = some (.func (.func 93) #[] #[]) := by rw [← hW1]; exact (World.cell?_of_block (Below.heap_alloc wr _ _ (show w2.heap.size < wr.heap.size by omega))).trans t13
          have hz1' : W1.heap.size = wr.heap.size + 1 := by rw [← hW1]; simp
          rw [hW1] at hBX ⊢
          have b0 := cell_of_row W1 wr.heap.size 0 _ _ _ hXb
          have b1 := cell_of_row W1 wr.heap.size 1 _ _ _ hXb
          have b2 := cell_of_row W1 wr.heap.size 2 _ _ _ hXb
          have b3 := cell_of_row W1 wr.heap.size 3 _ _ _ hXb
          simp only [List.getElem?_toArray, List.getElem?_cons_zero, List.getElem?_cons_succ] at b0 b1 b2 b3
          clear hW1 t2 t5 t7 t8 t13 t15 q0 q1 q2 q3
          have KX : Hid (∀ (W : World) (SA' SB' : List St), G2 w5 w1.heap.size (w1.heap.size + 1) SA' SB' W → W.heap[wr.heap.size]? = W1.heap[wr.heap.size]? → W.cell? ⟨wr.heap.size, 0, none⟩ = some (.int .i64 3) ∧ W.cell? ⟨wr.heap.size, 1, none⟩ = some (.int .u8 (c1.toNat : Int)) ∧ W.cell? ⟨wr.heap.size, 2, none⟩ = some (.int .i64 1) ∧ W.cell? ⟨wr.heap.size, 3, none⟩ = some (.int .u8 (c2.toNat : Int)) ∧ W.cell? ⟨w2.heap.size, 13, none⟩ = some (.func (.func 93) #[] #[])) := hide (fun W SA' SB' h1 h2 => by
            have e := h2.trans hXb
            have f := (h1.same (k := w2.heap.size) (by omega) (by omega) (by omega)).trans hTb5
            refine ⟨?_, ?_, ?_, ?_, tb_at f 13⟩
            · rw [cell_of_row _ _ _ _ _ _ e]; rfl
            · rw [cell_of_row _ _ _ _ _ _ e]; rfl
            · rw [cell_of_row _ _ _ _ _ _ e]; rfl
            · rw [cell_of_row _ _ _ _ _ _ e]; rfl
            )
          have KY : Hid (∀ (W : World) (SA' SB' : List St), G2 w5 w1.heap.size (w1.heap.size + 1) SA' SB' W → W.heap[wr.heap.size]? = W1.heap[wr.heap.size]? → W.cell? ⟨wr.heap.size, 0, none⟩ = some (.int .i64 3) ∧ W.cell? ⟨wr.heap.size, 1, none⟩ = some (.int .u8 (c1.toNat : Int)) ∧ W.cell? ⟨wr.heap.size, 2, none⟩ = some (.int .i64 1) ∧ W.cell? ⟨wr.heap.size, 3, none⟩ = some (.int .u8 (c2.toNat : Int)) ∧ W.cell? ⟨w2.heap.size, 7, none⟩ = some (.func (.func 120) #[] #[])) := hide (fun W SA' SB' h1 h2 => by
            have e := h2.trans hXb
            have f := (h1.same (k := w2.heap.size) (by omega) (by omega) (by omega)).trans hTb5
            refine ⟨?_, ?_, ?_, ?_, tb_at f 7⟩
            · rw [cell_of_row _ _ _ _ _ _ e]; rfl
            · rw [cell_of_row _ _ _ _ _ _ e]; rfl
            · rw [cell_of_row _ _ _ _ _ _ e]; rfl
            · rw [cell_of_row _ _ _ _ _ _ e]; rfl
            )
          have AX := hide (show Calls Tryd.prog _ #[_, .agg #[.int .i64 3, .int .u8 (c1.toNat : Int)]] W1.drew _ from (HG.out.mark (b := wr.heap.size) hBX.drew (Nat.le_refl _)).add (show wr.heap.size < W1.heap.size by omega) ⟨3, c1⟩ (.inr (.inr rfl)) lA)
          go_region_held3 (fun w' => w'.cell? ⟨wr.heap.size, 0, none⟩ = some (.int .i64 3) ∧ w'.cell? ⟨wr.heap.size, 1, none⟩ = some (.int .u8 (c1.toNat : Int)) ∧ w'.cell? ⟨wr.heap.size, 2, none⟩ = some (.int .i64 1) ∧ w'.cell? ⟨wr.heap.size, 3, none⟩ = some (.int .u8 (c2.toNat : Int)) ∧ w'.cell? ⟨w2.heap.size, 13, none⟩ = some (.func (.func 93) #[] #[]))
            (first | assumption | exact ⟨b0, b1, b2, b3, tx⟩ | exact KX.out _ _ _ hG7.all hs7)
            ((go_at_call 93; refine AX.out.mono ?_; rintro e w7 ⟨rfl, hG7, hs7, hz7⟩))
          obtain ⟨y0, y1, y2, y3, ty⟩ := KY.out _ _ _ hG7.all hs7
          have hz7' : W1.heap.size ≤ w7.heap.size := hz7
          have AY := hide (show Calls Tryd.prog _ #[_, .agg #[.int .i64 1, .int .u8 (c2.toNat : Int)]] w7.drew _ from (hG7.up (Below.refl _ _).drew).swap.addNothing (show wr.heap.size < w7.heap.size by omega) ⟨1, c2⟩)
          replace hs7 : w7.heap[wr.heap.size]? = W1.heap[wr.heap.size]? := hs7
          clear AX b0 b1 b2 b3 tx KX hG7 HG hXb
          go_wp2_with fail
          go_region_held3 (fun w' => w'.cell? ⟨wr.heap.size, 0, none⟩ = some (.int .i64 3) ∧ w'.cell? ⟨wr.heap.size, 1, none⟩ = some (.int .u8 (c1.toNat : Int)) ∧ w'.cell? ⟨wr.heap.size, 2, none⟩ = some (.int .i64 1) ∧ w'.cell? ⟨wr.heap.size, 3, none⟩ = some (.int .u8 (c2.toNat : Int)) ∧ w'.cell? ⟨w2.heap.size, 7, none⟩ = some (.func (.func 120) #[] #[]))
            (first | assumption | exact ⟨y0, y1, y2, y3, ty⟩ | exact KY.out _ _ _ hG8.all.swap (hs8.trans hs7))
            ((go_at_call 120; refine AY.out.mono ?_; rintro e w8 ⟨rfl, hG8, hs8, hz8⟩))
          have HG8 := hide hG8.all.swap
          clear AY y0 y1 y2 y3 ty KY hG8 hs8 hs7
          go_wp2
          go_roundw
          case rel => exact ⟨k + 1, by omega, by go_num, by rw [EAB.out.1, EAB.out.2]; first | exact HG8 | (simp only [List.append_nil]; exact HG8)⟩
          case measure => simp [intOf]; omega
        · subst h1 h2
          have hbs : bhS ⟨3, c1⟩ ⟨3, c2⟩ = [] := rfl
          have hbt : bhS ⟨3, c2⟩ ⟨3, c1⟩ = [] := rfl
          rw [hbs, hbt] at EAB
          clear hbs hbt
          have hBX : Below wr.heap.size wr (wr.alloc (.cells #[.int .i64 3, .int .u8 (c1.toNat : Int), .int .i64 3, .int .u8 (c2.toNat : Int)] 145)) := (Below.refl _ _).alloc (Nat.le_refl _) _
          go_wp2_with fail
          obtain ⟨W1, hW1⟩ : ∃ W1, wr.alloc (.cells #[.int .i64 3, .int .u8 (c1.toNat : Int), .int .i64 3, .int .u8 (c2.toNat : Int)] 145) = W1 := ⟨_, rfl⟩
          have hXb : W1.heap[wr.heap.size]? = some (.cells #[.int .i64 3, .int .u8 (c1.toNat : Int), .int .i64 3, .int .u8 (c2.toNat : Int)] 145) := by rw [← hW1]; exact heap_alloc_new _ _
          have tx : W1.cell? ⟨w2.heap.size, 15, none⟩ = some (.func (.func 120) #[] #[]) := by rw [← hW1]; exact (World.cell?_of_block (Below.heap_alloc wr _ _ (show w2.heap.size < wr.heap.size by omega))).trans t15
          have hz1' : W1.heap.size = wr.heap.size + 1 := by rw [← hW1]; simp
          rw [hW1] at hBX ⊢
          have b0 := cell_of_row W1 wr.heap.size 0 _ _ _ hXb
          have b1 := cell_of_row W1 wr.heap.size 1 _ _ _ hXb
          have b2 := cell_of_row W1 wr.heap.size 2 _ _ _ hXb
          have b3 := cell_of_row W1 wr.heap.size 3 _ _ _ hXb
          simp only [List.getElem?_toArray, List.getElem?_cons_zero, List.getElem?_cons_succ] at b0 b1 b2 b3
          clear hW1 t2 t5 t7 t8 t13 t15 q0 q1 q2 q3
          have KX : Hid (∀ (W : World) (SA' SB' : List St), G2 w5 w1.heap.size (w1.heap.size + 1) SA' SB' W → W.heap[wr.heap.size]? = W1.heap[wr.heap.size]? → W.cell? ⟨wr.heap.size, 0, none⟩ = some (.int .i64 3) ∧ W.cell? ⟨wr.heap.size, 1, none⟩ = some (.int .u8 (c1.toNat : Int)) ∧ W.cell? ⟨wr.heap.size, 2, none⟩ = some (.int .i64 3) ∧ W.cell? ⟨wr.heap.size, 3, none⟩ = some (.int .u8 (c2.toNat : Int)) ∧ W.cell? ⟨w2.heap.size, 15, none⟩ = some (.func (.func 120) #[] #[])) := hide (fun W SA' SB' h1 h2 => by
            have e := h2.trans hXb
            have f := (h1.same (k := w2.heap.size) (by omega) (by omega) (by omega)).trans hTb5
            refine ⟨?_, ?_, ?_, ?_, tb_at f 15⟩
            · rw [cell_of_row _ _ _ _ _ _ e]; rfl
            · rw [cell_of_row _ _ _ _ _ _ e]; rfl
            · rw [cell_of_row _ _ _ _ _ _ e]; rfl
            · rw [cell_of_row _ _ _ _ _ _ e]; rfl
            )
          have KY : Hid (∀ (W : World) (SA' SB' : List St), G2 w5 w1.heap.size (w1.heap.size + 1) SA' SB' W → W.heap[wr.heap.size]? = W1.heap[wr.heap.size]? → W.cell? ⟨wr.heap.size, 0, none⟩ = some (.int .i64 3) ∧ W.cell? ⟨wr.heap.size, 1, none⟩ = some (.int .u8 (c1.toNat : Int)) ∧ W.cell? ⟨wr.heap.size, 2, none⟩ = some (.int .i64 3) ∧ W.cell? ⟨wr.heap.size, 3, none⟩ = some (.int .u8 (c2.toNat : Int)) ∧ W.cell? ⟨w2.heap.size, 15, none⟩ = some (.func (.func 120) #[] #[])) := hide (fun W SA' SB' h1 h2 => by
            have e := h2.trans hXb
            have f := (h1.same (k := w2.heap.size) (by omega) (by omega) (by omega)).trans hTb5
            refine ⟨?_, ?_, ?_, ?_, tb_at f 15⟩
            · rw [cell_of_row _ _ _ _ _ _ e]; rfl
            · rw [cell_of_row _ _ _ _ _ _ e]; rfl
            · rw [cell_of_row _ _ _ _ _ _ e]; rfl
            · rw [cell_of_row _ _ _ _ _ _ e]; rfl
            )
          have AX := hide (show Calls Tryd.prog _ #[_, .agg #[.int .i64 3, .int .u8 (c1.toNat : Int)]] W1.drew _ from (HG.out.mark (b := wr.heap.size) hBX.drew (Nat.le_refl _)).addNothing (show wr.heap.size < W1.heap.size by omega) ⟨3, c1⟩)
          go_region_held3 (fun w' => w'.cell? ⟨wr.heap.size, 0, none⟩ = some (.int .i64 3) ∧ w'.cell? ⟨wr.heap.size, 1, none⟩ = some (.int .u8 (c1.toNat : Int)) ∧ w'.cell? ⟨wr.heap.size, 2, none⟩ = some (.int .i64 3) ∧ w'.cell? ⟨wr.heap.size, 3, none⟩ = some (.int .u8 (c2.toNat : Int)) ∧ w'.cell? ⟨w2.heap.size, 15, none⟩ = some (.func (.func 120) #[] #[]))
            (first | assumption | exact ⟨b0, b1, b2, b3, tx⟩ | exact KX.out _ _ _ hG7.all hs7)
            ((go_at_call 120; refine AX.out.mono ?_; rintro e w7 ⟨rfl, hG7, hs7, hz7⟩))
          obtain ⟨y0, y1, y2, y3, ty⟩ := KY.out _ _ _ hG7.all hs7
          have hz7' : W1.heap.size ≤ w7.heap.size := hz7
          have AY := hide (show Calls Tryd.prog _ #[_, .agg #[.int .i64 3, .int .u8 (c2.toNat : Int)]] w7.drew _ from (hG7.up (Below.refl _ _).drew).swap.addNothing (show wr.heap.size < w7.heap.size by omega) ⟨3, c2⟩)
          replace hs7 : w7.heap[wr.heap.size]? = W1.heap[wr.heap.size]? := hs7
          clear AX b0 b1 b2 b3 tx KX hG7 HG hXb
          go_wp2_with fail
          go_region_held3 (fun w' => w'.cell? ⟨wr.heap.size, 0, none⟩ = some (.int .i64 3) ∧ w'.cell? ⟨wr.heap.size, 1, none⟩ = some (.int .u8 (c1.toNat : Int)) ∧ w'.cell? ⟨wr.heap.size, 2, none⟩ = some (.int .i64 3) ∧ w'.cell? ⟨wr.heap.size, 3, none⟩ = some (.int .u8 (c2.toNat : Int)) ∧ w'.cell? ⟨w2.heap.size, 15, none⟩ = some (.func (.func 120) #[] #[]))
            (first | assumption | exact ⟨y0, y1, y2, y3, ty⟩ | exact KY.out _ _ _ hG8.all.swap (hs8.trans hs7))
            ((go_at_call 120; refine AY.out.mono ?_; rintro e w8 ⟨rfl, hG8, hs8, hz8⟩))
          have HG8 := hide hG8.all.swap
          clear AY y0 y1 y2 y3 ty KY hG8 hs8 hs7
          go_wp2
          go_roundw
          case rel => exact ⟨k + 1, by omega, by go_num, by rw [EAB.out.1, EAB.out.2]; first | exact HG8 | (simp only [List.append_nil]; exact HG8)⟩
          case measure => simp [intOf]; omega
    · obtain rfl : k = F.length := by omega
      rw [List.take_length] at HG
      have WX := hide (HG.out.whole (by have := trA_len F; omega) HT.out HB.out (by omega) (by omega))
      clear HG
      rw [HX.out.1] at WX
      have lB : (trB F).length ≤ 100000 := by have := trB_len F; omega
      go_wp2_with fail
      refine WX.out.mono ?_
      rintro e w7 ⟨v1, rfl, o1, hb7, VY, hVY, hnY⟩
      clear WX
      have WY := hide (gt_whole hVY hnY o1 lB HT.out hb7)
      rw [HX.out.2] at WY
      obtain ⟨a1, c1, rfl, -, -⟩ := own_shp o1
      clear hVY hnY o1 hb7
      go_wp2_with fail
      refine WY.out.mono ?_
      rintro e w8 ⟨u1, rfl, ou, ov, hb8⟩
      obtain ⟨a2, c2, rfl, -, -⟩ := own_shp ou
      have OU := hide (And.intro ou ov)
      clear ou ov WY
      cases xA with
      | false =>
        clear OU
        go_wp2
        go_ret3
        exact ⟨_, _, by simp; exact ⟨rfl, rfl⟩, by first | exact World.ownsRow_nil _ _ _ _ | (simp; exact World.ownsRow_nil _ _ _ _), by first | exact World.ownsRow_nil _ _ _ _ | (simp; exact World.ownsRow_nil _ _ _ _), hb8⟩
      | true =>
        cases xB with
        | false =>
          clear OU
          go_wp2
          go_ret3
          exact ⟨_, _, by simp; exact ⟨rfl, rfl⟩, by first | exact World.ownsRow_nil _ _ _ _ | (simp; exact World.ownsRow_nil _ _ _ _), by first | exact World.ownsRow_nil _ _ _ _ | (simp; exact World.ownsRow_nil _ _ _ _), hb8⟩
        | true =>
          have e1 : Hid (ouG (trA F) = (gath g0 (trA F)).out) := hide (by unfold ouG; rw [HX.out.1]; rfl)
          have e2 : Hid (ouG (trB F) = (gath g0 (trB F)).out) := hide (by unfold ouG; rw [HX.out.2]; rfl)
          go_wp2
          go_ret3
          exact ⟨_, _, by simp; exact ⟨rfl, rfl⟩, by first | (rw [← e1.out]; exact OU.out.2) | (rw [if_pos rfl, ← e1.out]; exact OU.out.2), by first | (rw [← e2.out]; exact OU.out.1) | (rw [if_pos rfl, ← e2.out]; exact OU.out.1), hb8⟩
end Go.Proofs.YtbooongkbninhaaDoor
