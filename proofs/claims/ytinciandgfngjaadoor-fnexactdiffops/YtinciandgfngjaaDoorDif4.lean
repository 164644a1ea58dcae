/- The least change: the model's DiffOps. -/
import Derived.Test.YtinciandgfngjaaDoorDif3
import Derived.Test.YtinciandgfngjaaDoorRw5
import Derived.Test.YtinciandgfngjaaDoorOpSM
set_option linter.unusedVariables false
namespace Go.Proofs.YtinciandgfngjaaDoor
open Go.RowKit
open Doc1

theorem own_pinD {w : World} {B : Nat} {v : Value} {l : List Pt} (h : POwn w B v l) (h0w : 0 < w.heap.size) (hs : ∀ p ∈ l, p.put.size ≤ 1048576 ∧ p.drop.size ≤ 1048576) (hl : l.length ≤ 1048576) :
    ∃ aw g cap, v = .slice aw l.length cap ∧ Pin w aw g cap l := by
  have hsi : ∀ i (hi : i < l.length), l[i].put.size ≤ 1048576 ∧ l[i].drop.size ≤ 1048576 := fun i hi => hs _ (List.getElem_mem hi)
  rcases h.2 with ⟨rfl, h0⟩ | ⟨g, cap, cur, rfl, hb, hh, hle, hm, hz, ht⟩
  · obtain rfl := List.eq_nil_of_length_eq_zero h0
    exact ⟨none, 0, 0, rfl, ⟨by simp, by unfold maxLen; omega⟩, hsi, hl, (fun j u hu => by simp [encP] at hu), h0w, fun c => absurd rfl c⟩
  · refine ⟨_, g, cap, rfl, ⟨hle, hm⟩, hsi, hl, fun j u hu => ?_, (Array.getElem?_eq_some_iff.1 hh).1, fun _ => rfl⟩
    have := h.cells (g := g) rfl j u hu
    have hadd : (⟨g, 0, none⟩ : Addr).add j = ⟨g, j, none⟩ := by unfold Addr.add; split <;> simp_all
    rwa [hadd] at this
theorem one_at (s : ByteArray) (k : Nat) (h : k < s.size) : s.extract k (k + 1) = ba [s[k]] := by
  apply ByteArray.ext
  apply Array.ext'
  simp only [ByteArray.data_extract, Array.toList_extract, List.extract_eq_take_drop, ba]
  rw [drop_at s k h, show k + 1 - k = 1 by omega]
  rfl
theorem ptV_keep : ptV (stP ⟨1, 0⟩) = .agg #[.int .i64 1, .string ⟨#[]⟩, .string ⟨#[]⟩] := rfl
theorem ptV_put (c : UInt8) : ptV (stP ⟨2, c⟩) = .agg #[.int .i64 0, .string (ba [c]), .string ⟨#[]⟩] := rfl
theorem ptV_drop (c : UInt8) : ptV (stP ⟨3, c⟩) = .agg #[.int .i64 0, .string ⟨#[]⟩, .string (ba [c])] := rfl
/-- One step more. -/
theorem addS {w : World} {B : Nat} {v : Value} {pre : List St} (x : St) (h : POwn w B v (normL (pre.map stP))) (hB : B ≤ w.heap.size) (hl : pre.length ≤ 600) (hp : ∀ y ∈ pre, so y) (hx : so x) :
    Calls Tryd.prog 51 #[v, ptV (stP x)] w fun e w' => ∃ v', e = .returned v' ∧ POwn w' B v' (normL ((pre ++ [x]).map stP)) ∧ Below B w w' := by
  have hpk : ∀ p ∈ pre.map stP, pk p ≠ 0 := fun p hh => by
    obtain ⟨y, hy, rfl⟩ := List.mem_map.1 hh
    exact pk_P (hp y hy)
  have hn := norm_bd (pre.map stP) hpk (pre.map stP).length (Nat.le_refl _)
  rw [List.take_length, List.length_map] at hn
  refine (l3Add_any (stP x) h hB (by omega) (fun q hq => (hn.2 q hq).mono (by omega)) (pk_P hx)).mono ?_
  rintro e w' ⟨v', rfl, h1, h2⟩
  refine ⟨v', rfl, ?_, h2⟩
  have : normL ((pre ++ [x]).map stP) = addP (normL (pre.map stP)) (stP x) := by simp [normL]
  rw [this]
  exact h1
theorem lcF_drop (a b : ByteArray) {i k : Nat} : (lcF a.data.toList b.data.toList (i + 1) k = lcF a.data.toList b.data.toList i k) ↔ lc (a.data.toList.drop (i + 1)) (b.data.toList.drop k) = lc (a.data.toList.drop i) (b.data.toList.drop k) := by
  unfold lcF; omega

set_option maxRecDepth 100000 in
set_option maxHeartbeats 8000000 in
theorem l9Diff_any (a b : ByteArray) (w : World) (ha : a.size ≤ 300) (hb : b.size ≤ 300) (hso : ∀ x ∈ dst a.data.toList b.data.toList, so x) :
    Calls Tryd.prog 32 #[.string a, .string b] w fun e w' => ∃ v, e = .returned v ∧ POwn w' w.heap.size v (normL ((dst a.data.toList b.data.toList).map stP)) ∧ Below w.heap.size w w' ∧ w.heap.size < w'.heap.size := by
  have T := hide (l9Table_any a b w ha hb)
  have hSl : (dst a.data.toList b.data.toList).length ≤ 600 := by
    have := dst_len _ a.data.toList b.data.toList (Nat.le_refl _)
    simp at this
    omega
  obtain ⟨S, hS⟩ : ∃ S, dst a.data.toList b.data.toList = S := ⟨_, rfl⟩
  rw [hS] at hSl hso ⊢
  have HS := hide hS
  have HSO := hide hso
  clear hS hso
  go_enter Tryd.func32, Tryd.ntmps32
  go_wp2_with fail
  refine T.out.mono ?_
  rintro e W1 ⟨rfl, hLt, hb1⟩
  have HW := hide (And.intro hLt hb1)
  have hBW := hLt.lt
  clear hLt hb1 T
  go_wp2
  go_loopw [6, 7, 8] (fun v vi vk wr => ∃ i k pre, i ≤ a.size ∧ k ≤ b.size ∧ vi = .int .i64 ((i : Nat) : Int) ∧ vk = .int .i64 ((k : Nat) : Int) ∧ ∃ v0, v0 = v ∧ Hid (pre ++ dst (a.data.toList.drop i) (b.data.toList.drop k) = S ∧ POwn wr W1.heap.size v0 (normL (pre.map stP)) ∧ Below W1.heap.size W1 wr)) (fun _ vi vk _ => a.size - (intOf vi).toNat + (b.size - (intOf vk).toNat))
  case atStart => exact ⟨0, 0, [], Nat.zero_le _, Nat.zero_le _, rfl, rfl, _, rfl, hide ⟨HS.out, World.ownsRow_nil _ _ _ _, Below.refl _ _⟩⟩
  case round =>
    obtain ⟨i, k, pre, hia0, hkb0, rfl, rfl, v, hv0, HR⟩ := hrel
    subst hv0
    have hLt := HW.out.1.later HR.out.2.2
    have hpl : pre.length ≤ 600 := by
      have := HR.out.1
      rw [← this, List.length_append] at hSl
      omega
    have hbs := HR.out.2.2.size
    have HPS : Hid (∀ y ∈ pre, so y) := hide (fun y hy => HSO.out y (by rw [← HR.out.1]; simp [hy]))
    have HNX : ∀ x L, dst (a.data.toList.drop i) (b.data.toList.drop k) = x :: L → so x := fun x L e => HSO.out x (by rw [← HR.out.1, e]; simp)
    have s0 := hLt.c i hia0
    have c0 := (hLt.r i hia0).c k (by omega)
    have b0 := lcF_bd (a := a.data.toList) (b := b.data.toList) (by simpa using ha) i k
    obtain ⟨y0, hy0⟩ : ∃ y, lcF a.data.toList b.data.toList i k = y := ⟨_, rfl⟩
    by_cases hia : i < a.size
    · have hd1 : decide ((i : Int) < (a.size : Int)) = true := decide_eq_true (by omega)
      have s1 := hLt.c (i + 1) (by omega)
      have c1 := (hLt.r (i + 1) (by omega)).c k (by omega)
      have b1 := lcF_bd (a := a.data.toList) (b := b.data.toList) (by simpa using ha) (i + 1) k
      have hld := lcF_drop a b (i := i) (k := k)
      obtain ⟨y1, hy1⟩ : ∃ y, lcF a.data.toList b.data.toList (i + 1) k = y := ⟨_, rfl⟩
      rw [hy1] at c1 b1 hld
      rw [hy0] at c0 b0 hld
      have hw1 : IntKind.i64.wrap ((i : Int) + 1) = (i : Int) + 1 := by rw [IntKind.wrap_i64]; omega
      clear hy1 hLt
      by_cases hkb : k < b.size
      · have hd2 : decide ((k : Int) < (b.size : Int)) = true := decide_eq_true (by omega)
        have hw2 : IntKind.i64.wrap ((k : Int) + 1) = (k : Int) + 1 := by rw [IntKind.wrap_i64]; omega
        have hd3 : ((k : Int) == (b.size : Int)) = false := by rw [beq_eq_false_iff_ne]; omega
        by_cases he : a[i] = b[k]
        · have hq : ((a[i].toNat : Int) == (b[k].toNat : Int)) = true := u8_beq he
          have HE := hide (dst_keep hia hkb he)
          have AD : Hid (∀ wx, Below wr.heap.size wr wx → Calls Tryd.prog 51 #[v, ptV (stP (⟨1, 0⟩ : St))] wx fun e w' => ∃ v', e = .returned v' ∧ POwn w' W1.heap.size v' (normL ((pre ++ [(⟨1, 0⟩ : St)]).map stP)) ∧ Below W1.heap.size wx w') := hide (fun wx hbx => addS (⟨1, 0⟩ : St) (own_below HR.out.2.1 hbx) (Nat.le_trans hbs hbx.size) hpl HPS.out (HNX _ _ HE.out))
          rw [ptV_keep] at AD
          clear HNX hy0
          clear he hld c1 s1 b1
          go_wp2
          go_quiet (fail)
          go_wp2_with fail
          refine (AD.out _ (below_dN (Below.refl _ _) _)).mono ?_
          rintro e w5 ⟨v', rfl, ho5, hb5⟩
          have HN : Hid ((pre ++ [(⟨1, 0⟩ : St)]) ++ dst (a.data.toList.drop (i + 1)) (b.data.toList.drop (k + 1)) = S ∧ POwn w5 W1.heap.size v' (normL ((pre ++ [(⟨1, 0⟩ : St)]).map stP)) ∧ Below W1.heap.size W1 w5) := hide ⟨by rw [List.append_assoc, List.singleton_append, ← HE.out]; exact HR.out.1, ho5, (HR.out.2.2.trans ((below_dN (Below.refl _ _) _).mono hbs)).trans hb5⟩
          clear AD ho5 hb5
          go_wp2
          go_roundw
          case rel => exact ⟨i + 1, k + 1, _, by omega, by omega, by go_num, by go_num, _, rfl, HN⟩
          case measure => simp [intOf]; omega
        · have hq : ((a[i].toNat : Int) == (b[k].toNat : Int)) = false := u8_bne he
          by_cases hdr : y1 = y0
          · have hq2 : (y1 == y0) = true := by simpa using hdr
            have HE := hide (dst_drop hia (fun _ => he) (hld.1 hdr))
            have AD : Hid (∀ wx, Below wr.heap.size wr wx → Calls Tryd.prog 51 #[v, ptV (stP (⟨3, a[i]⟩ : St))] wx fun e w' => ∃ v', e = .returned v' ∧ POwn w' W1.heap.size v' (normL ((pre ++ [(⟨3, a[i]⟩ : St)]).map stP)) ∧ Below W1.heap.size wx w') := hide (fun wx hbx => addS (⟨3, a[i]⟩ : St) (own_below HR.out.2.1 hbx) (Nat.le_trans hbs hbx.size) hpl HPS.out (HNX _ _ HE.out))
            rw [ptV_drop, ← one_at a i hia] at AD
            clear HNX hy0
            clear he hld hdr
            go_wp2
            go_quiet (fail)
            go_wp2
            go_quiet (fail)
            go_wp2_with fail
            refine (AD.out _ (below_dN (Below.refl _ _) _)).mono ?_
            rintro e w5 ⟨v', rfl, ho5, hb5⟩
            have HN : Hid ((pre ++ [(⟨3, a[i]⟩ : St)]) ++ dst (a.data.toList.drop (i + 1)) (b.data.toList.drop (k)) = S ∧ POwn w5 W1.heap.size v' (normL ((pre ++ [(⟨3, a[i]⟩ : St)]).map stP)) ∧ Below W1.heap.size W1 w5) := hide ⟨by rw [List.append_assoc, List.singleton_append, ← HE.out]; exact HR.out.1, ho5, (HR.out.2.2.trans ((below_dN (Below.refl _ _) _).mono hbs)).trans hb5⟩
            clear AD ho5 hb5
            go_wp2
            go_roundw
            case rel => exact ⟨i + 1, k, _, by omega, by omega, by go_num, by go_num, _, rfl, HN⟩
            case measure => simp [intOf]; omega
          · have hq2 : (y1 == y0) = false := by simpa using hdr
            have HE := hide (dst_put (i := i) hkb (fun _ => he) (fun _ c => hdr (hld.2 c)))
            have AD : Hid (∀ wx, Below wr.heap.size wr wx → Calls Tryd.prog 51 #[v, ptV (stP (⟨2, b[k]⟩ : St))] wx fun e w' => ∃ v', e = .returned v' ∧ POwn w' W1.heap.size v' (normL ((pre ++ [(⟨2, b[k]⟩ : St)]).map stP)) ∧ Below W1.heap.size wx w') := hide (fun wx hbx => addS (⟨2, b[k]⟩ : St) (own_below HR.out.2.1 hbx) (Nat.le_trans hbs hbx.size) hpl HPS.out (HNX _ _ HE.out))
            rw [ptV_put, ← one_at b k hkb] at AD
            clear HNX hy0
            clear he hld hdr
            go_wp2
            go_quiet (fail)
            go_wp2
            go_quiet (fail)
            go_wp2_with fail
            refine (AD.out _ (below_dN (Below.refl _ _) _)).mono ?_
            rintro e w5 ⟨v', rfl, ho5, hb5⟩
            have HN : Hid ((pre ++ [(⟨2, b[k]⟩ : St)]) ++ dst (a.data.toList.drop (i)) (b.data.toList.drop (k + 1)) = S ∧ POwn w5 W1.heap.size v' (normL ((pre ++ [(⟨2, b[k]⟩ : St)]).map stP)) ∧ Below W1.heap.size W1 w5) := hide ⟨by rw [List.append_assoc, List.singleton_append, ← HE.out]; exact HR.out.1, ho5, (HR.out.2.2.trans ((below_dN (Below.refl _ _) _).mono hbs)).trans hb5⟩
            clear AD ho5 hb5
            go_wp2
            go_roundw
            case rel => exact ⟨i, k + 1, _, by omega, by omega, by go_num, by go_num, _, rfl, HN⟩
            case measure => simp [intOf]; omega
      · have hd2 : decide ((k : Int) < (b.size : Int)) = false := decide_eq_false (by omega)
        have hd3 : ((k : Int) == (b.size : Int)) = true := by rw [beq_iff_eq]; omega
        have HE := hide (dst_drop (j := k) hia (fun h => absurd h hkb) (by rw [drop_end b k (by omega), lc_nr, lc_nr]))
        have AD : Hid (∀ wx, Below wr.heap.size wr wx → Calls Tryd.prog 51 #[v, ptV (stP (⟨3, a[i]⟩ : St))] wx fun e w' => ∃ v', e = .returned v' ∧ POwn w' W1.heap.size v' (normL ((pre ++ [(⟨3, a[i]⟩ : St)]).map stP)) ∧ Below W1.heap.size wx w') := hide (fun wx hbx => addS (⟨3, a[i]⟩ : St) (own_below HR.out.2.1 hbx) (Nat.le_trans hbs hbx.size) hpl HPS.out (HNX _ _ HE.out))
        rw [ptV_drop, ← one_at a i hia] at AD
        clear HNX hy0
        clear hld c1 s1 b1
        go_wp2
        go_quiet (fail)
        go_wp2
        go_quiet (fail)
        go_wp2_with fail
        refine (AD.out _ (below_dN (Below.refl _ _) _)).mono ?_
        rintro e w5 ⟨v', rfl, ho5, hb5⟩
        have HN : Hid ((pre ++ [(⟨3, a[i]⟩ : St)]) ++ dst (a.data.toList.drop (i + 1)) (b.data.toList.drop (k)) = S ∧ POwn w5 W1.heap.size v' (normL ((pre ++ [(⟨3, a[i]⟩ : St)]).map stP)) ∧ Below W1.heap.size W1 w5) := hide ⟨by rw [List.append_assoc, List.singleton_append, ← HE.out]; exact HR.out.1, ho5, (HR.out.2.2.trans ((below_dN (Below.refl _ _) _).mono hbs)).trans hb5⟩
        clear AD ho5 hb5
        go_wp2
        go_roundw
        case rel => exact ⟨i + 1, k, _, by omega, by omega, by go_num, by go_num, _, rfl, HN⟩
        case measure => simp [intOf]; omega
    · have hd1 : decide ((i : Int) < (a.size : Int)) = false := decide_eq_false (by omega)
      clear hLt
      rw [hy0] at c0 b0
      by_cases hkb : k < b.size
      · have hd2 : decide ((k : Int) < (b.size : Int)) = true := decide_eq_true (by omega)
        have hw2 : IntKind.i64.wrap ((k : Int) + 1) = (k : Int) + 1 := by rw [IntKind.wrap_i64]; omega
        have hd3 : ((k : Int) == (b.size : Int)) = false := by rw [beq_eq_false_iff_ne]; omega
        have HE := hide (dst_put (i := i) hkb (fun h => absurd h hia) (fun h => absurd h hia))
        have AD : Hid (∀ wx, Below wr.heap.size wr wx → Calls Tryd.prog 51 #[v, ptV (stP (⟨2, b[k]⟩ : St))] wx fun e w' => ∃ v', e = .returned v' ∧ POwn w' W1.heap.size v' (normL ((pre ++ [(⟨2, b[k]⟩ : St)]).map stP)) ∧ Below W1.heap.size wx w') := hide (fun wx hbx => addS (⟨2, b[k]⟩ : St) (own_below HR.out.2.1 hbx) (Nat.le_trans hbs hbx.size) hpl HPS.out (HNX _ _ HE.out))
        rw [ptV_put, ← one_at b k hkb] at AD
        clear HNX hy0
        go_wp2
        go_quiet (fail)
        go_wp2
        go_quiet (fail)
        go_wp2_with fail
        refine (AD.out _ (below_dN (Below.refl _ _) _)).mono ?_
        rintro e w5 ⟨v', rfl, ho5, hb5⟩
        have HN : Hid ((pre ++ [(⟨2, b[k]⟩ : St)]) ++ dst (a.data.toList.drop (i)) (b.data.toList.drop (k + 1)) = S ∧ POwn w5 W1.heap.size v' (normL ((pre ++ [(⟨2, b[k]⟩ : St)]).map stP)) ∧ Below W1.heap.size W1 w5) := hide ⟨by rw [List.append_assoc, List.singleton_append, ← HE.out]; exact HR.out.1, ho5, (HR.out.2.2.trans ((below_dN (Below.refl _ _) _).mono hbs)).trans hb5⟩
        clear AD ho5 hb5
        go_wp2
        go_roundw
        case rel => exact ⟨i, k + 1, _, by omega, by omega, by go_num, by go_num, _, rfl, HN⟩
        case measure => simp [intOf]; omega
      · have hd2 : decide ((k : Int) < (b.size : Int)) = false := decide_eq_false (by omega)
        have hpS : pre = S := by
          have := HR.out.1
          rw [drop_end a i (by omega), drop_end b k (by omega), dst_nn, List.append_nil] at this
          exact this
        have ho := HR.out.2.1
        rw [hpS] at ho
        have HF := hide (And.intro (ho.mono HW.out.2.size) (And.intro (HW.out.2.trans (HR.out.2.2.mono HW.out.2.size)) (Nat.lt_of_lt_of_le hBW hbs)))
        clear ho hpS HR HNX hy0 c0 b0 s0
        go_wp2
        go_ret
        exact ⟨v, rfl, HF.out.1, HF.out.2.1, HF.out.2.2⟩
end Go.Proofs.YtinciandgfngjaaDoor
