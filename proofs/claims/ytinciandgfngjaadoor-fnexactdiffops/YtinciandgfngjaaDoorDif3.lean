/- The least change: the program's DiffOps, whole. -/
import Derived.Test.YtinciandgfngjaaDoorDif2
set_option linter.unusedVariables false
namespace Go.Proofs.YtinciandgfngjaaDoor
open Go.RowKit
open Doc1

theorem RwAt.low {w w1 : World} {g o B : Nat} {f : Nat → Int} (h : RwAt w g o f) (hb : Below B w w1) (hg : g < B) : RwAt w1 g o f := by
  refine ⟨fun j hj => (World.cell?_of_block (hb.block g hg)).trans (h.c j hj), fun j hj => ?_⟩
  have := h.z j hj
  unfold World.frozen? at this ⊢
  rw [hb.block g hg]
  exact this
theorem TbAt.low {w w1 : World} {G t k B : Nat} {a b : ByteArray} (h : TbAt w G t a b k) (hb : Below B w w1) (hg : G < B) : TbAt w1 G t a b k :=
  ⟨fun i hi => by obtain ⟨f, hf⟩ := h.z i hi; exact ⟨f, hf.low hb hg⟩, fun i h1 h2 => (h.r i h1 h2).low hb hg⟩
/-- The gathering stands, and of what lay only it has changed. -/
def GM (W2 : World) (gb : Nat) (pre : List St) (wr : World) : Prop := ∃ V, Gt gb V (gath g0 pre) wr ∧ Moves (OB gb (fun j => if j = 1 then .int .i64 0 else .slice none 0 0)) W2 (OB gb V) wr
theorem GM.up {W2 wr w1 : World} {gb : Nat} {pre : List St} (h : GM W2 gb pre wr) (hb : Below wr.heap.size wr w1) : GM W2 gb pre w1 := by
  obtain ⟨V, h1, h2⟩ := h
  exact ⟨V, h1.up hb, h2.trans (moves_up hb)⟩
theorem GM.below {W2 wr : World} {gb : Nat} {pre : List St} (h : GM W2 gb pre wr) (hg : gb ≤ W2.heap.size) : Below gb W2 wr := by
  obtain ⟨V, h1, h2⟩ := h
  exact h2.below hg (fun k hk c => by have := ob_new c; omega)
theorem GM.add {W2 wr : World} {gb : Nat} {pre : List St} (h : GM W2 gb pre wr) (x : St) (hx : sk x) (hl : pre.length ≤ 600) :
    Calls Tryd.prog 35 #[.pointer (some ⟨gb, 0, none⟩), stV x] wr fun e w' => e = .returned (.tuple #[]) ∧ GM W2 gb (pre ++ [x]) w' := by
  obtain ⟨V, h1, h2⟩ := h
  have hgb := gb_gath pre g0 0 gb0
  refine (add_any x hx h1 hgb (by omega)).mono ?_
  rintro e w' ⟨rfl, V', hV, hm⟩
  refine ⟨rfl, V', ?_, h2.trans hm⟩
  have := gath_snoc id pre x
  simp only [List.map_id, id] at this
  rw [this]
  exact hV
theorem GM.whole {w W2 wr : World} {gb : Nat} {S : List St} (h : GM W2 gb S wr) (hl : S.length ≤ 600) (hT : Tab w) (hb : Below w.heap.size w W2) (hgb : w.heap.size ≤ gb) (hg2 : gb ≤ W2.heap.size) :
    Calls Tryd.prog 37 #[.pointer (some ⟨gb, 0, none⟩)] wr fun e w' => ∃ v, e = .returned (.tuple #[v, .bool (goodO (gath g0 S).out)]) ∧
      POwn w' w.heap.size v (if goodO (gath g0 S).out then (gath g0 S).out else []) ∧ Below w.heap.size w w' := by
  have hbl := h.below hg2
  obtain ⟨V, hV, mv⟩ := h
  have lt0 := hT.lt
  have hsz := hb.size
  have no : ∀ k, k < w.heap.size → ¬ OB gb V k := fun k hk c => by
    have := ob_new (mv.own k (by omega) c)
    omega
  have hbW : Below w.heap.size w wr := hb.trans (hbl.mono hgb)
  have hTW := hT.block (hbW.block _ lt0)
  have hgb0 := gb_gath S g0 0 gb0
  have hgs0 := gs_gath S g0 0 gb0 (fun p hp => by simp [g0] at hp)
  refine (whole_any hV hgb0 hgs0 (by omega) hTW (no _ lt0)).mono ?_
  rintro e w' ⟨v, rfl, ⟨O', mv'⟩, ho, hin⟩
  have hszW := hbW.size
  refine ⟨v, rfl, own_raise ho (fun x hx => ?_), hbW.trans (mv'.below hszW no)⟩
  by_cases hlt : x < wr.heap.size
  · exact Nat.le_of_not_lt (fun c => no x c (hin x hx hlt))
  · omega

/-- What both answer of good texts. -/
def dfG (a b : List UInt8) : Bool := goodO (gath g0 (dst a b)).out
def dfO (a b : List UInt8) : List Pt := if dfG a b then (gath g0 (dst a b)).out else []

set_option maxRecDepth 100000 in
set_option maxHeartbeats 4000000 in
theorem diffI_good (a b : ByteArray) (w : World) (hT : Tab w) (h1 : good a.data.toList = true) (h2 : good b.data.toList = true) (ha : a.size ≤ 300) (hb : b.size ≤ 300) :
    Calls Tryd.prog 14 #[.string a, .string b] w fun e w' => ∃ v, e = .returned (.tuple #[v, .bool (dfG a.data.toList b.data.toList)]) ∧ POwn w' w.heap.size v (dfO a.data.toList b.data.toList) ∧ Below w.heap.size w w' := by
  have M := hide (measure_good 2 a b w hT h1 h2 ha hb (by omega))
  have KN := hide (fun G i j w1 hi hj => keepsNext_any a b G i j w1 ha hb hi hj)
  have DN := hide (fun G i j w1 h hi hj => dropsNext_any a b G i j w1 h ha hb hi hj)
  have hSl : (dst a.data.toList b.data.toList).length ≤ 600 := by
    have := dst_len _ a.data.toList b.data.toList (Nat.le_refl _)
    simp at this
    omega
  obtain ⟨S, hS⟩ : ∃ S, dst a.data.toList b.data.toList = S := ⟨_, rfl⟩
  rw [hS] at hSl
  obtain ⟨gd, hgd⟩ : ∃ g, dfG a.data.toList b.data.toList = g := ⟨_, rfl⟩
  obtain ⟨O, hO⟩ : ∃ o, dfO a.data.toList b.data.toList = o := ⟨_, rfl⟩
  rw [hgd, hO]
  have HGO : Hid (goodO (gath g0 S).out = gd ∧ (if goodO (gath g0 S).out then (gath g0 S).out else []) = O) := hide (by rw [← hS]; exact ⟨hgd, hO⟩)
  clear hgd hO
  have HS := hide hS
  have HT := hide hT
  clear h1 h2 hT hS
  go_enter Tryd.func14, Tryd.ntmps14
  go_wp2_with fail
  refine M.out.mono ?_
  rintro e w1 ⟨G, rfl, hG, hTb, hb1⟩
  have hh := heap_alloc_new w1 (.cells #[.string a, .string b, .slice (some ⟨G, 0, none⟩) (a.size + 1) (a.size + 1)] 42)
  have hT1 := hTb.later ((Below.refl _ _).alloc (Nat.le_refl _) (.cells #[.string a, .string b, .slice (some ⟨G, 0, none⟩) (a.size + 1) (a.size + 1)] 42))
  have hB1 := hb1.alloc hb1.size (.cells #[.string a, .string b, .slice (some ⟨G, 0, none⟩) (a.size + 1) (a.size + 1)] 42)
  have hs1 : (w1.alloc (.cells #[.string a, .string b, .slice (some ⟨G, 0, none⟩) (a.size + 1) (a.size + 1)] 42)).heap.size = w1.heap.size + 1 := by simp
  have hlG := hTb.lt
  have hs0 := hb1.size
  clear hTb hb1 M
  go_wp2
  generalize w1.alloc (.cells #[.string a, .string b, .slice (some ⟨G, 0, none⟩) (a.size + 1) (a.size + 1)] 42) = W1 at *
  have hgt := gt_new W1 55
  have hbW := (Below.refl W1.heap.size W1).alloc (Nat.le_refl _) (.cells #[.slice none 0 0, .int .i64 0, .slice none 0 0, .slice none 0 0] 55)
  have hs2 : (W1.alloc (.cells #[.slice none 0 0, .int .i64 0, .slice none 0 0, .slice none 0 0] 55)).heap.size = w1.heap.size + 2 := by simp [hs1]
  have hh2 := (hbW.block w1.heap.size (by omega)).trans hh
  have hT2 := hT1.later hbW
  have hB2 := hB1.trans (hbW.mono hB1.size)
  have HG : Hid (GM (W1.alloc (.cells #[.slice none 0 0, .int .i64 0, .slice none 0 0, .slice none 0 0] 55)) (w1.heap.size + 1) [] (W1.alloc (.cells #[.slice none 0 0, .int .i64 0, .slice none 0 0, .slice none 0 0] 55))) := hide ⟨_, by rw [hs1] at hgt; exact hgt, Moves.refl _ _⟩
  generalize W1.alloc (.cells #[.slice none 0 0, .int .i64 0, .slice none 0 0, .slice none 0 0] 55) = W2 at *
  have HW := hide (And.intro hh2 (And.intro hT2 hB2))
  clear hh hT1 hB1 hgt hbW hh2 hT2 hB2
  go_loopw [9, 10] (fun vi vj wr => ∃ i j pre, i ≤ a.size ∧ j ≤ b.size ∧ vi = .int .i64 ((i : Nat) : Int) ∧ vj = .int .i64 ((j : Nat) : Int) ∧ Hid (pre ++ dst (a.data.toList.drop i) (b.data.toList.drop j) = S ∧ GM W2 (w1.heap.size + 1) pre wr)) (fun vi vj _ => a.size - (intOf vi).toNat + (b.size - (intOf vj).toNat))
  case atStart => exact ⟨0, 0, [], Nat.zero_le _, Nat.zero_le _, rfl, rfl, hide ⟨HS.out, HG.out⟩⟩
  case round =>
    obtain ⟨i, j, pre, hi, hj, rfl, rfl, HR⟩ := hrel
    clear HG
    have hbl := HR.out.2.below (by omega)
    have c0 := (World.cell?_of_block (hbl.block w1.heap.size (by omega))).trans (cell_of_row W2 w1.heap.size 0 _ _ _ HW.out.1)
    have c1 := (World.cell?_of_block (hbl.block w1.heap.size (by omega))).trans (cell_of_row W2 w1.heap.size 1 _ _ _ HW.out.1)
    have c2 := (World.cell?_of_block (hbl.block w1.heap.size (by omega))).trans (cell_of_row W2 w1.heap.size 2 _ _ _ HW.out.1)
    simp only [List.getElem?_toArray, List.getElem?_cons_zero, List.getElem?_cons_succ] at c0 c1 c2
    have hrs : wr.heap.size ≥ W2.heap.size := hbl.size
    have hpl : pre.length ≤ 600 := by
      have := HR.out.1
      rw [← this, List.length_append] at hSl
      omega
    by_cases hia : i < a.size
    · have hd1 : decide ((i : Int) < (a.size : Int)) = true := decide_eq_true (by omega)
      by_cases hkn : kpN a b i j = true
      · have hjb : j < b.size := by
          by_cases h : j < b.size
          · exact h
          · unfold kpN at hkn; rw [dif_neg (by omega)] at hkn; cases hkn
        have he : a[i] = b[j] := by unfold kpN at hkn; rw [dif_pos ⟨hia, hjb⟩] at hkn; simpa using hkn
        have HE := hide (dst_keep hia hjb he)
        have KN' := KN.out G i j wr hi hj
        rw [hkn] at KN'
        replace KN' := hide KN'
        clear hkn he
        go_wp2_with fail
        refine KN'.out.mono ?_
        rintro e w3 ⟨rfl, hb3⟩
        have hG3 := HR.out.2.up hb3
        have AD := hide (hG3.add ⟨1, 0⟩ (by first | exact .inl rfl | exact .inr (.inl rfl) | exact .inr (.inr rfl)) hpl)
        unfold stV at AD
        go_wp2_with fail
        refine AD.out.mono ?_
        rintro e w5 ⟨rfl, hG5⟩
        have HN : Hid ((pre ++ [⟨1, 0⟩]) ++ dst (a.data.toList.drop (i + 1)) (b.data.toList.drop (j + 1)) = S ∧ GM W2 (w1.heap.size + 1) (pre ++ [⟨1, 0⟩]) w5) := hide ⟨by rw [List.append_assoc, List.singleton_append, ← HE.out]; exact HR.out.1, hG5⟩
        clear AD hG5
        go_wp2
        exact ⟨⟨i + 1, j + 1, _, by omega, by omega, by go_num, by go_num, HN⟩, by simp [intOf]; omega⟩
      · rw [Bool.not_eq_true] at hkn
        have hne : ∀ hj : j < b.size, ¬ a[i] = b[j] := fun hjb c => by
          unfold kpN at hkn
          rw [dif_pos ⟨hia, hjb⟩] at hkn
          simp [c] at hkn
        by_cases hdn : drN a b i j = true
        · have hl : lc (a.data.toList.drop (i + 1)) (b.data.toList.drop j) = lc (a.data.toList.drop i) (b.data.toList.drop j) := by
            unfold drN at hdn
            simp only [Bool.and_eq_true, decide_eq_true_eq] at hdn
            exact hdn.2
          have HE := hide (dst_drop hia hne hl)
          have KN' := KN.out G i j wr hi hj
          rw [hkn] at KN'
          replace KN' := hide KN'
          go_wp2_with fail
          refine KN'.out.mono ?_
          rintro e w3 ⟨rfl, hb3⟩
          have hG3 := HR.out.2.up hb3
          have hbl3 := hG3.below (by omega)
          have d0 := (World.cell?_of_block (hb3.block w1.heap.size (by omega))).trans c0
          have d1 := (World.cell?_of_block (hb3.block w1.heap.size (by omega))).trans c1
          have d2 := (World.cell?_of_block (hb3.block w1.heap.size (by omega))).trans c2
          have DN' := DN.out G i j w3 (HW.out.2.1.low hbl3 (by omega)) hi hj
          rw [hdn] at DN'
          replace DN' := hide DN'
          clear c0 c1 c2
          go_wp2_with fail
          refine DN'.out.mono ?_
          rintro e w4 ⟨rfl, hb4⟩
          have hG4 := hG3.up hb4
          clear d0 d1 d2
          clear hkn hdn hl hne
          have AD := hide (hG4.add ⟨3, a[i]⟩ (by first | exact .inl rfl | exact .inr (.inl rfl) | exact .inr (.inr rfl)) hpl)
          unfold stV at AD
          go_wp2_with fail
          refine AD.out.mono ?_
          rintro e w5 ⟨rfl, hG5⟩
          have HN : Hid ((pre ++ [⟨3, a[i]⟩]) ++ dst (a.data.toList.drop (i + 1)) (b.data.toList.drop (j)) = S ∧ GM W2 (w1.heap.size + 1) (pre ++ [⟨3, a[i]⟩]) w5) := hide ⟨by rw [List.append_assoc, List.singleton_append, ← HE.out]; exact HR.out.1, hG5⟩
          clear AD hG5
          go_wp2
          exact ⟨⟨i + 1, j, _, by omega, by omega, by go_num, by go_num, HN⟩, by simp [intOf]; omega⟩
        · rw [Bool.not_eq_true] at hdn
          have hl : ¬ lc (a.data.toList.drop (i + 1)) (b.data.toList.drop j) = lc (a.data.toList.drop i) (b.data.toList.drop j) := fun c => by
            unfold drN at hdn
            rw [decide_eq_true hia, decide_eq_true c] at hdn
            cases hdn
          have hjb : j < b.size := by
            by_cases h : j < b.size
            · exact h
            · rw [drop_end b j (by omega), lc_nr, lc_nr] at hl; exact absurd rfl hl
          have HE := hide (dst_put (i := i) hjb (fun _ => hne hjb) (fun _ => hl))
          have KN' := KN.out G i j wr hi hj
          rw [hkn] at KN'
          replace KN' := hide KN'
          go_wp2_with fail
          refine KN'.out.mono ?_
          rintro e w3 ⟨rfl, hb3⟩
          have hG3 := HR.out.2.up hb3
          have hbl3 := hG3.below (by omega)
          have d0 := (World.cell?_of_block (hb3.block w1.heap.size (by omega))).trans c0
          have d1 := (World.cell?_of_block (hb3.block w1.heap.size (by omega))).trans c1
          have d2 := (World.cell?_of_block (hb3.block w1.heap.size (by omega))).trans c2
          have DN' := DN.out G i j w3 (HW.out.2.1.low hbl3 (by omega)) hi hj
          rw [hdn] at DN'
          replace DN' := hide DN'
          clear c0 c1 c2
          go_wp2_with fail
          refine DN'.out.mono ?_
          rintro e w4 ⟨rfl, hb4⟩
          have hG4 := hG3.up hb4
          clear d0 d1 d2
          clear hkn hdn hl hne
          have AD := hide (hG4.add ⟨2, b[j]⟩ (by first | exact .inl rfl | exact .inr (.inl rfl) | exact .inr (.inr rfl)) hpl)
          unfold stV at AD
          go_wp2_with fail
          refine AD.out.mono ?_
          rintro e w5 ⟨rfl, hG5⟩
          have HN : Hid ((pre ++ [⟨2, b[j]⟩]) ++ dst (a.data.toList.drop (i)) (b.data.toList.drop (j + 1)) = S ∧ GM W2 (w1.heap.size + 1) (pre ++ [⟨2, b[j]⟩]) w5) := hide ⟨by rw [List.append_assoc, List.singleton_append, ← HE.out]; exact HR.out.1, hG5⟩
          clear AD hG5
          go_wp2
          exact ⟨⟨i, j + 1, _, by omega, by omega, by go_num, by go_num, HN⟩, by simp [intOf]; omega⟩
    · have hd1 : decide ((i : Int) < (a.size : Int)) = false := decide_eq_false (by omega)
      by_cases hjb : j < b.size
      · have hd2 : decide ((j : Int) < (b.size : Int)) = true := decide_eq_true (by omega)
        have hkn : kpN a b i j = false := by unfold kpN; rw [dif_neg (by omega)]
        have hdn : drN a b i j = false := by unfold drN; rw [decide_eq_false hia]; rfl
        have HE := hide (dst_put (i := i) hjb (fun h => absurd h hia) (fun h => absurd h hia))
        have KN' := KN.out G i j wr hi hj
        rw [hkn] at KN'
        replace KN' := hide KN'
        go_wp2_with fail
        refine KN'.out.mono ?_
        rintro e w3 ⟨rfl, hb3⟩
        have hG3 := HR.out.2.up hb3
        have hbl3 := hG3.below (by omega)
        have d0 := (World.cell?_of_block (hb3.block w1.heap.size (by omega))).trans c0
        have d1 := (World.cell?_of_block (hb3.block w1.heap.size (by omega))).trans c1
        have d2 := (World.cell?_of_block (hb3.block w1.heap.size (by omega))).trans c2
        have DN' := DN.out G i j w3 (HW.out.2.1.low hbl3 (by omega)) hi hj
        rw [hdn] at DN'
        replace DN' := hide DN'
        clear c0 c1 c2
        go_wp2_with fail
        refine DN'.out.mono ?_
        rintro e w4 ⟨rfl, hb4⟩
        have hG4 := hG3.up hb4
        clear d0 d1 d2
        clear hkn hdn
        have AD := hide (hG4.add ⟨2, b[j]⟩ (by first | exact .inl rfl | exact .inr (.inl rfl) | exact .inr (.inr rfl)) hpl)
        unfold stV at AD
        go_wp2_with fail
        refine AD.out.mono ?_
        rintro e w5 ⟨rfl, hG5⟩
        have HN : Hid ((pre ++ [⟨2, b[j]⟩]) ++ dst (a.data.toList.drop (i)) (b.data.toList.drop (j + 1)) = S ∧ GM W2 (w1.heap.size + 1) (pre ++ [⟨2, b[j]⟩]) w5) := hide ⟨by rw [List.append_assoc, List.singleton_append, ← HE.out]; exact HR.out.1, hG5⟩
        clear AD hG5
        go_wp2
        exact ⟨⟨i, j + 1, _, by omega, by omega, by go_num, by go_num, HN⟩, by simp [intOf]; omega⟩
      · have hd2 : decide ((j : Int) < (b.size : Int)) = false := decide_eq_false (by omega)
        have hpS : pre = S := by
          have := HR.out.1
          rw [drop_end a i (by omega), drop_end b j (by omega), dst_nn, List.append_nil] at this
          exact this
        have hGM := HR.out.2
        rw [hpS] at hGM
        have WH := hide (hGM.whole hSl HT.out HW.out.2.2 (by omega) (by omega))
        clear hpS hGM HR hbl c0 c1 c2
        go_wp2_with fail
        refine WH.out.mono ?_
        rintro e w5 ⟨v, rfl, ho, hbf⟩
        rw [HGO.out.2] at ho
        rw [HGO.out.1]
        have HF := hide (And.intro ho hbf)
        clear ho hbf WH HGO
        go_wp2
        go_ret2
        exact ⟨v, rfl, HF.out.1, HF.out.2⟩
end Go.Proofs.YtinciandgfngjaaDoor
