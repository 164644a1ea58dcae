/- The program's ReplaceOp. -/
import Derived.Test.YtfiefklhhchebabDoorRep8
set_option linter.unusedVariables false
namespace Go.Proofs.YtfiefklhhchebabDoor
open Go.RowKit
open Doc1

theorem sps_putB {p s W : ByteArray} (h0 : 0 < p.size) (hs : s.size ≤ 300) (hW : W.size ≤ 300) : PutB 300 (sps p s W) := by
  intro y hy
  unfold sps at hy
  obtain ⟨x, hx, rfl⟩ := List.mem_map.1 hy
  have := (plc_is h0 hx).1
  exact ⟨hW, by show x ≤ 300; omega, by show x + p.size ≤ 300; omega⟩
theorem PutB.mono {M N : Nat} {l : List Spl} (h : PutB M l) (hm : M ≤ N) : PutB N l := fun y hy => ⟨Nat.le_trans (h y hy).1 hm, (h y hy).2⟩
theorem sps_len {p s W : ByteArray} (hs : s.size ≤ 300) : (sps p s W).length ≤ 300 := by
  unfold sps; rw [List.length_map]; have := plc_len p s; omega
theorem rep_raw {p s W : ByteArray} (h0 : 0 < p.size) (hp : good p.data.toList = true) (hs : s.size ≤ 300) (hW : good W.data.toList = true) (hWp : ¬ W = p) : repL p s W = ftP (rawG s (jnt (sps p s W))) := by
  unfold repL
  rw [if_neg hWp]
  refine raw_add (sps_asc W h0) (fun q hq => ?_)
  have h := gA_ok (W := W) h0 hp hs hW (sps p s W).length
  rw [List.take_of_length_le (Nat.le_refl _)] at h
  unfold rawG at hq
  rcases List.mem_append.1 hq with c | c
  · exact h.1 q c
  · rw [List.mem_singleton] at c; subst c; exact pk_keep (by omega)
theorem rep_nor {p s W : ByteArray} (h0 : 0 < p.size) (hp : good p.data.toList = true) (hs : s.size ≤ 300) (hW : good W.data.toList = true) (hWp : ¬ W = p) : norO (ftP (rawG s (jnt (sps p s W)))) = if goodO (repL p s W) then repL p s W else [] := by
  rw [rep_raw h0 hp hs hW hWp]
  unfold norO
  by_cases hg : goodO (ftP (rawG s (jnt (sps p s W)))) = true
  · rw [if_pos hg, if_pos hg, raw_norm (sps_asc W h0) hg]
  · rw [if_neg hg, if_neg hg]

set_option maxRecDepth 100000 in
set_option maxHeartbeats 4000000 in
theorem repI_any (p s W : ByteArray) (w : World) (hp : p.size ≤ 1048576) (hs : s.size ≤ 1048576) (hW : W.size ≤ 1048576) (hT : Tab w) :
    Calls Tryd.prog 11 #[.string s, .string p, .string W] w (RoPost p s W w) := by
  have H := replacements_any p s W w hp hs hW hT
  unfold RpPost at H
  by_cases hok : rpOk p s W = true
  · rw [hok, if_pos rfl] at H
    replace H := hide H
    have hk2 := hok
    unfold rpOk at hk2
    rw [Bool.and_eq_true] at hk2
    obtain ⟨-, h0, -, h3, h4, h5⟩ := said_yes hk2.1
    have hB : rpB p s W = goodO (repL p s W) := by unfold rpB; rw [hok]; rfl
    have HT := hide hT
    by_cases hWp : W = p
    · have hq : (W.toList == p.toList) = true := by rw [txt_eq]; exact decide_eq_true hWp
      have hR : repL p s W = keepL (s.size : Int) := by unfold repL; rw [if_pos hWp]
      have hG : goodO (repL p s W) = true := by rw [hR]; exact keepL_good h3
      have hK : keepOk (s.size : Int) = true := by unfold keepOk; exact decide_eq_true (by omega)
      have HK := hide (fun w' => keepI (s.size : Int) w')
      rw [hK] at HK
      have HY := hide (fun v w' ho hb => ro_yes (p := p) (s := s) (W := W) (w := w) (v := v) (w' := w') (by rw [hB, hG]) (by rw [hR]; exact ho) hb)
      clear hok hk2 h4 h5 hB hWp hR hG hK hT
      go_enter Tryd.func11, Tryd.ntmps11
      go_wp2_with fail
      refine H.out.mono ?_
      rintro e w1 ⟨v, rfl, ho, hb1⟩
      have HB1 := hide hb1
      clear ho hb1
      go_wp2_with fail
      refine (HK.out w1).mono ?_
      rintro e w2 ⟨v2, rfl, o2, hb2⟩
      have HY1 := hide (HY.out v2 w2 (POwn.mono o2 HB1.out.size) (HB1.out.trans (hb2.mono HB1.out.size)))
      clear o2 hb2
      go_wp2
      go_ret2
      exact HY1.out
    · have hq : (W.toList == p.toList) = false := by rw [txt_eq]; exact decide_eq_false hWp
      have hW3 := good_le' hk2.2
      have hnr := rep_nor h0 h4 h3 hk2.2 hWp
      have hrr := rep_raw h0 h4 h3 hk2.2 hWp
      have hpb := sps_putB (W := W) h0 h3 hW3
      have hln := sps_len (p := p) (W := W) h3
      have hasc := (jnt_asc (sps_asc (s := s) W h0)).1
      have hjl := jnt_len (sps p s W)
      have hjb : PutB 90000 (jnt (sps p s W)) := by
        have := jnt_putB hpb (sps p s W).length (Nat.le_refl _)
        rw [List.take_of_length_le (Nat.le_refl _)] at this
        exact this.mono (by omega)
      have HJ := hide (fun (w' : World) v (h : SpOwn w' w.heap.size v (sps p s W)) => joinTouching_any h hln hpb)
      have HS := hide (fun (w' : World) B v (h : SpOwn w' B v (jnt (sps p s W))) (hT : Tab w') => spliceAll_any s h hasc h3 (by omega) hjb hT)
      rw [← hrr] at HS hnr
      rw [hnr] at HS
      have HY : Hid (∀ v w', POwn w' w.heap.size v (if goodO (repL p s W) then repL p s W else []) → Below w.heap.size w w' → RoPost p s W w (.returned (.tuple #[v, .bool (goodO (repL p s W))])) w') := hide (fun v w' ho hb => ⟨v, by rw [hB], by unfold rpT; rw [hB]; exact ho, hb⟩)
      clear hok hk2 h4 h5 hB hWp hT hnr hrr hpb hln hasc hjl hjb
      go_enter Tryd.func11, Tryd.ntmps11
      go_wp2_with fail
      refine H.out.mono ?_
      rintro e w1 ⟨v, rfl, ho, hb1⟩
      have HB1 := hide hb1
      have HO1 := hide ho
      clear ho hb1
      go_wp2_with fail
      refine (HJ.out w1 v HO1.out).mono ?_
      rintro e w2 ⟨v2, rfl, o2, hb2⟩
      have HB2 := hide (HB1.out.trans (hb2.mono HB1.out.size))
      have HO2 := hide o2
      clear o2 hb2 HO1 HB1
      go_wp2_with fail
      refine (HS.out w2 _ v2 HO2.out (HT.out.below HB2.out)).mono ?_
      rintro e w3 ⟨v3, rfl, o3, hb3⟩
      have HY1 := hide (HY.out v3 w3 (POwn.mono o3 HB2.out.size) (HB2.out.trans (hb3.mono HB2.out.size)))
      clear o3 hb3
      go_wp2
      go_ret2
      exact HY1.out
  · rw [Bool.not_eq_true] at hok
    have HN := hide (fun w' hb => ro_no (p := p) (s := s) (W := W) (w := w) (w' := w') (by unfold rpB; rw [hok]; rfl) hb)
    rw [hok] at H
    replace H := hide H
    clear hok
    go_enter Tryd.func11, Tryd.ntmps11
    go_wp2_with fail
    refine H.out.mono ?_
    rintro e w1 ⟨v, rfl, ho, hb1⟩
    have HN1 := hide (HN.out w1 hb1)
    clear ho hb1
    go_wp2
    go_ret2
    exact HN1.out
end Go.Proofs.YtfiefklhhchebabDoor
