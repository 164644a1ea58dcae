/- The walk of the model's l11Replace. -/
import Derived.Test.YtfiefklhhchebabDoorRep3
set_option linter.unusedVariables false
namespace Go.Proofs.YtfiefklhhchebabDoor
open Go.RowKit
open Doc1

theorem txt_eq {a b : ByteArray} : (a.toList == b.toList) = decide (a = b) := by
  rw [Bool.eq_iff_iff, beq_iff_eq, decide_eq_true_eq, Lib.toList_data, Lib.toList_data]
  exact ⟨fun h => ba_eq h, fun h => by rw [h]⟩

theorem accL_same {p s W : ByteArray} {k : Nat} (hWp : W = p) (h0 : 0 < p.size) (hs3 : s.size ≤ 300) (hk : k < (plc p s).length) : accL p s W (k + 1) = addP (addP (accL p s W k) ⟨(((plc p s)[k] - (gA s ((sps p s W).take k)).2 : Nat) : Int), e0, e0⟩) ⟨(p.size : Int), e0, e0⟩ := by
  have h := sps_at (W := W) (s := s) h0 hk
  have hx := (plc_is h0 (List.getElem_mem hk)).1
  unfold accL
  rw [if_pos hWp, if_pos hWp, keep_more (by omega), keep_more (by omega), h.1, show (gA s ((sps p s W).take k)).2 + ((plc p s)[k] - (gA s ((sps p s W).take k)).2) = (plc p s)[k] by omega]
theorem accL_other {p s W : ByteArray} {k : Nat} (hWp : ¬ W = p) (h0 : 0 < p.size) (hk : k < (plc p s).length) : accL p s W (k + 1) = addP (addP (addP (accL p s W k) ⟨(((plc p s)[k] - (gA s ((sps p s W).take k)).2 : Nat) : Int), e0, e0⟩) ⟨0, W, e0⟩) ⟨0, e0, p⟩ := by
  unfold accL
  rw [if_neg hWp, if_neg hWp, (sps_at (W := W) (s := s) h0 hk).1, List.foldl_append]
  rfl

set_option maxRecDepth 100000 in
set_option maxHeartbeats 8000000 in
theorem l11Replace_any (p s W : ByteArray) (w : World) (h0 : 0 < p.size) (hp : good p.data.toList = true) (hsg : good s.data.toList = true) (hW : good W.data.toList = true) :
    Calls Tryd.prog 19 #[.string s, .string p, .string W] w fun e w' => ∃ v, e = .returned (.tuple #[v, .int .i64 ((plc p s).length : Int)]) ∧ POwn w' w.heap.size v (repL p s W) ∧ Below w.heap.size w w' := by
  have hp3 := good_le' hp
  have hs3 := good_le' hsg
  have HP := hide (l11Apart_any p s w h0 hp3 hs3)
  have hfl := plc_len p s
  have HOK := hide (fun k (hk : k ≤ 300) => accL_ok (W := W) h0 hp hs3 hW hk)
  have HGA := hide (fun k => (gA_ok (W := W) h0 hp hs3 hW k).2.2)
  have HX := hide (fun x hx => (plc_is (s := s) h0 (x := x) hx).1)
  have HAT := hide (fun k hk => sps_at (W := W) (s := s) (k := k) h0 hk)
  have HPK := hide (And.intro hp hW)
  have HRP : Hid (repL p s W = addP (accL p s W (plc p s).length) ⟨((s.size - (gA s (sps p s W)).2 : Nat) : Int), e0, e0⟩) := hide (by
    unfold repL accL
    rw [List.take_of_length_le (by unfold sps; rw [List.length_map]; exact Nat.le_refl _)]
    by_cases hWp : W = p
    · rw [if_pos hWp, if_pos hWp]
      have := (gA_ok (W := W) h0 hp hs3 hW (plc p s).length).2.2
      rw [List.take_of_length_le (by unfold sps; rw [List.length_map]; exact Nat.le_refl _)] at this
      rw [keep_more (by omega), show (gA s (sps p s W)).2 + (s.size - (gA s (sps p s W)).2) = s.size by omega]
    · rw [if_neg hWp, if_neg hWp]
      unfold rawG
      rw [List.foldl_append]; rfl)
  clear hp hW hsg
  go_enter Tryd.func19, Tryd.ntmps19
  go_wp2_with fail
  refine HP.out.mono ?_
  rintro e W1 ⟨v, rfl, ho, hb1⟩
  obtain ⟨a, cap, rfl, k1, k2, hc⟩ := places_at (F := plc p s) ho
  have HC := hide hc
  have HB1 := hide hb1
  have hA0 : accL p s W 0 = [] := by unfold accL; split <;> rfl
  have HA0 := hide hA0
  have hSA : (gA s (sps p s W)).2 = (gA s ((sps p s W).take (plc p s).length)).2 := by
    rw [List.take_of_length_le (by unfold sps; rw [List.length_map]; exact Nat.le_refl _)]
  have HSA := hide hSA
  clear ho hb1 HP hc hA0 hSA
  go_wp2
  go_loopw [8, 9, 18] (fun v va vi wr => ∃ (k A : Nat), k ≤ (plc p s).length ∧ vi = .int .i64 (k : Int) ∧ va = .int .i64 (A : Int) ∧ A ≤ s.size ∧ Hid (A = (gA s ((sps p s W).take k)).2) ∧ ∃ v0, v0 = v ∧ Hid (POwn wr W1.heap.size v0 (accL p s W k) ∧ Below W1.heap.size W1 wr)) (fun _ _ vi _ => (plc p s).length - (intOf vi).toNat)
  case atStart => exact ⟨0, 0, by omega, rfl, rfl, by omega, hide rfl, _, rfl, hide ⟨by rw [HA0.out]; exact World.ownsRow_nil _ _ _ _, Below.refl _ _⟩⟩
  case round =>
    obtain ⟨k, A, hk, rfl, rfl, hA, HAE, v, hv0, HR⟩ := hrel
    subst hv0
    have hac := HOK.out k (by omega)
    obtain ⟨L, hL⟩ : ∃ L, accL p s W k = L := ⟨_, rfl⟩
    by_cases hlt : k < (plc p s).length
    · obtain ⟨g, rfl, c1⟩ := HC.out wr HR.out.2 k hlt
      have hx := HX.out _ (List.getElem_mem hlt)
      have h1 := HAT.out k hlt
      rw [← HAE.out] at h1
      have hle := h1.2
      have HN : Hid ((plc p s)[k] + p.size = (gA s ((sps p s W).take (k + 1))).2) := hide (by rw [h1.1])
      have HS1 := hide (fun (hWp : W = p) => accL_same hWp h0 hs3 hlt)
      have HS2 := hide (fun (hWp : ¬ W = p) => accL_other (s := s) hWp h0 hlt)
      rw [← HAE.out, hL] at HS1 HS2
      rw [hL] at hac
      obtain ⟨x, hxd⟩ : ∃ x, (plc p s)[k] = x := ⟨_, rfl⟩
      rw [hxd] at c1 hx hle HN HS1 HS2
      have HR1 : Hid (POwn wr W1.heap.size v L ∧ Below W1.heap.size W1 wr) := hide (by rw [← hL]; exact HR.out)
      have p1 := pk_keep (n := x - A) (by omega)
      have p2 := pk_put HPK.out.2
      have p3 := pk_drp HPK.out.1
      have p4 := pk_keep (n := p.size) (by omega)
      have b0 : L.length ≤ 900 ∧ ∀ q ∈ L, Bd 300000 q := hac
      have b1 := bd_more ⟨by omega, b0.2⟩ p1
      have A1 := hide (fun (w' : World) v (h : POwn w' W1.heap.size v L) (hB : W1.heap.size ≤ w'.heap.size) => l3Add_opt _ h hB (by omega) (fun q hq => (b0.2 q hq).mono (by omega)) p1)
      have ew : IntKind.i64.wrap ((x : Int) - (A : Int)) = ((x - A : Nat) : Int) := by rw [IntKind.wrap_i64]; omega
      clear hxd h1 hac hL HR HOK HGA
      by_cases hWp : W = p
      · have hq : (W.toList == p.toList) = true := by rw [txt_eq]; exact decide_eq_true hWp
        have HS := hide (HS1.out hWp)
        have A2 := hide (fun (w' : World) v (h : POwn w' W1.heap.size v _) (hB : W1.heap.size ≤ w'.heap.size) => l3Add_opt _ h hB (by omega) (fun q hq => (b1.2 q hq).mono (by omega)) p4)
        unfold ptV at A1 A2
        clear hWp HS1 HS2 b0 b1 p1 p2 p3 p4
        go_wp2_with fail
        refine (A1.out wr v HR1.out.1 HR1.out.2.size).mono ?_
        rintro e w2 ⟨v2, rfl, o2, hb2⟩
        have HB2 := hide (HR1.out.2.trans hb2)
        have O2 := hide o2
        clear o2 hb2 HR1
        go_wp2_with fail
        refine (A2.out w2 v2 O2.out HB2.out.size).mono ?_
        rintro e w3 ⟨v3, rfl, o3, hb3⟩
        have HR3 : Hid (POwn w3 W1.heap.size v3 (accL p s W (k + 1)) ∧ Below W1.heap.size W1 w3) := hide ⟨by rw [HS.out]; exact o3, HB2.out.trans hb3⟩
        clear o3 hb3 O2 A1 A2
        go_wp2
        exact ⟨⟨k + 1, x + p.size, by omega, by go_num, by go_num, by omega, HN, _, rfl, HR3⟩, by simp [intOf]; omega⟩
      · have hq : (W.toList == p.toList) = false := by rw [txt_eq]; exact decide_eq_false hWp
        have HS := hide (HS2.out hWp)
        have b2 := bd_more ⟨by omega, b1.2⟩ p2
        have A2 := hide (fun (w' : World) v (h : POwn w' W1.heap.size v _) (hB : W1.heap.size ≤ w'.heap.size) => l3Add_opt _ h hB (by omega) (fun q hq => (b1.2 q hq).mono (by omega)) p2)
        have A3 := hide (fun (w' : World) v (h : POwn w' W1.heap.size v _) (hB : W1.heap.size ≤ w'.heap.size) => l3Add_opt _ h hB (by omega) (fun q hq => (b2.2 q hq).mono (by omega)) p3)
        unfold ptV at A1 A2 A3
        clear hWp HS1 HS2 b0 b1 b2 p1 p2 p3 p4
        go_wp2_with fail
        refine (A1.out wr v HR1.out.1 HR1.out.2.size).mono ?_
        rintro e w2 ⟨v2, rfl, o2, hb2⟩
        have HB2 := hide (HR1.out.2.trans hb2)
        have O2 := hide o2
        clear o2 hb2 HR1
        go_wp2_with fail
        refine (A2.out w2 v2 O2.out HB2.out.size).mono ?_
        rintro e w3 ⟨v3, rfl, o3, hb3⟩
        have HB3 := hide (HB2.out.trans hb3)
        have O3 := hide o3
        clear o3 hb3 O2 HB2
        go_wp2_with fail
        refine (A3.out w3 v3 O3.out HB3.out.size).mono ?_
        rintro e w4 ⟨v4, rfl, o4, hb4⟩
        have HR3 : Hid (POwn w4 W1.heap.size v4 (accL p s W (k + 1)) ∧ Below W1.heap.size W1 w4) := hide ⟨by rw [HS.out]; exact o4, HB3.out.trans hb4⟩
        clear o4 hb4 O3 A1 A2 A3
        go_wp2
        exact ⟨⟨k + 1, x + p.size, by omega, by go_num, by go_num, by omega, HN, _, rfl, HR3⟩, by simp [intOf]; omega⟩
    · obtain hke : k = (plc p s).length := by omega
      have p1 := pk_keep (n := s.size - A) (by omega)
      rw [hL] at hac
      have A1 := hide (fun (w' : World) v (h : POwn w' W1.heap.size v L) (hB : W1.heap.size ≤ w'.heap.size) => l3Add_opt _ h hB (by omega) (fun q hq => (hac.2 q hq).mono (by omega)) p1)
      unfold ptV at A1
      have ew : IntKind.i64.wrap ((s.size : Int) - (A : Int)) = ((s.size - A : Nat) : Int) := by rw [IntKind.wrap_i64]; omega
      have HR1 : Hid (POwn wr W1.heap.size v L ∧ Below W1.heap.size W1 wr) := hide (by rw [← hL]; exact HR.out)
      have HE : Hid (repL p s W = addP L ⟨((s.size - A : Nat) : Int), e0, e0⟩) := hide (by rw [HRP.out, HSA.out, ← hke, ← HAE.out, hL])
      clear hac hL HR HOK HGA HAE hke p1
      go_wp2_with fail
      refine (A1.out wr v HR1.out.1 HR1.out.2.size).mono ?_
      rintro e w2 ⟨v2, rfl, o2, hb2⟩
      have HO : Hid (POwn w2 w.heap.size v2 (repL p s W) ∧ Below w.heap.size w w2) := hide ⟨by rw [HE.out]; exact POwn.mono o2 HB1.out.size, HB1.out.trans ((HR1.out.2.trans hb2).mono HB1.out.size)⟩
      clear o2 hb2 A1 HR1
      go_wp2
      go_ret2
      exact ⟨_, rfl, HO.out.1, HO.out.2⟩
end Go.Proofs.YtfiefklhhchebabDoor
