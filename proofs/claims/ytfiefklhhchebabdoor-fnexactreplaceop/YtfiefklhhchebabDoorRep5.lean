/- The model's ReplaceOp. -/
import Derived.Test.YtfiefklhhchebabDoorRep4
set_option linter.unusedVariables false
namespace Go.Proofs.YtfiefklhhchebabDoor
open Go.RowKit
open Doc1

theorem repL_bd {p s W : ByteArray} (h0 : 0 < p.size) (hp : good p.data.toList = true) (hs : s.size ≤ 300) (hW : good W.data.toList = true) : (repL p s W).length ≤ 901 ∧ ∀ q ∈ repL p s W, Bd 300300 q := by
  have hl := plc_len p s
  have hac := accL_ok (W := W) h0 hp hs hW (k := (plc p s).length) (by omega)
  unfold accL at hac
  rw [List.take_of_length_le (by unfold sps; rw [List.length_map]; exact Nat.le_refl _)] at hac
  unfold repL
  by_cases hWp : W = p
  · rw [if_pos hWp]
    refine ⟨Nat.le_trans (keepL_len _) (by omega), fun q hq => ?_⟩
    unfold keepL at hq
    split at hq
    · rw [List.mem_singleton] at hq
      subst hq
      exact ⟨by show (s.size : Int) ≤ ((300300 : Nat) : Int); omega, by show (0 : Nat) ≤ _; omega, by show (0 : Nat) ≤ _; omega⟩
    · cases hq
  · rw [if_neg hWp] at hac ⊢
    unfold rawG
    rw [List.foldl_append]
    have := bd_more ⟨by omega, hac.2⟩ (pk_keep (n := s.size - (gA s (sps p s W)).2) (by omega))
    exact ⟨Nat.le_trans this.1 (by omega), this.2⟩
/-- It may be told. -/
def rpOk (p s W : ByteArray) : Bool := said p s && good W.data.toList
def rpB (p s W : ByteArray) : Bool := rpOk p s W && goodO (repL p s W)
def rpT (p s W : ByteArray) : List Pt := if rpB p s W then repL p s W else []
def RoPost (p s W : ByteArray) (w : World) (e : Ending) (w' : World) : Prop := ∃ v, e = .returned (.tuple #[v, .bool (rpB p s W)]) ∧ POwn w' w.heap.size v (rpT p s W) ∧ Below w.heap.size w w'
theorem ro_yes {p s W : ByteArray} {w w' : World} {v : Value} (h : rpB p s W = true) (ho : POwn w' w.heap.size v (repL p s W)) (hb : Below w.heap.size w w') : RoPost p s W w (.returned (.tuple #[v, .bool true])) w' :=
  ⟨v, by rw [h], by unfold rpT; rw [if_pos h]; exact ho, hb⟩
theorem ro_no {p s W : ByteArray} {w w' : World} (h : rpB p s W = false) (hb : Below w.heap.size w w') : RoPost p s W w (.returned (.tuple #[.slice none 0 0, .bool false])) w' :=
  ⟨_, by rw [h], by unfold rpT; rw [h, if_neg (by simp)]; exact World.ownsRow_nil _ _ _ _, hb⟩
theorem rpT_len (p s W : ByteArray) : (rpT p s W).length ≤ 60 := by
  unfold rpT rpB
  split
  · rename_i h; rw [Bool.and_eq_true] at h; exact (goodO_le h.2).1
  · simp

set_option maxRecDepth 100000 in
set_option maxHeartbeats 4000000 in
theorem repS_any (p s W : ByteArray) (w : World) (hp : p.size ≤ 1048576) (hs : s.size ≤ 1048576) (hW : W.size ≤ 1048576) :
    Calls Tryd.prog 10 #[.string s, .string p, .string W] w (RoPost p s W w) := by
  have H := l11Said_any p s w hp hs
  have HG := goodTextS_any W w hW
  by_cases h1 : said p s = true
  · rw [h1] at H
    replace H := hide H
    by_cases h2 : good W.data.toList = true
    · rw [h2] at HG
      replace HG := hide HG
      obtain ⟨-, h0, -, h3, h4, h5⟩ := said_yes h1
      have HR := hide (l11Replace_any p s W w h0 h4 h5 h2)
      have hbd := repL_bd (W := W) h0 h4 h3 h2
      have HGO := hide (fun (w' : World) v (h : POwn w' w.heap.size v (repL p s W)) => goodOpS_own h (fun i hi => by have := hbd.2 _ (List.getElem_mem hi); exact ⟨by have := this.2.1; omega, by have := this.2.2; omega⟩) (by omega))
      have hB : rpB p s W = goodO (repL p s W) := by unfold rpB rpOk; rw [h1, h2]; rfl
      cases hg : goodO (repL p s W) with
      | true =>
        rw [hg] at hB HGO
        have HY := hide (fun v w' ho hb => ro_yes (w := w) (v := v) (w' := w') hB ho hb)
        clear h1 h2 h4 h5 hbd hB hg
        go_enter Tryd.func10, Tryd.ntmps10
        go_wp2_with fail
        refine H.out.mono ?_
        rintro e w' ⟨rfl, hw⟩
        replace hw := hw.symm
        subst hw
        go_wp2_with fail
        refine HG.out.mono ?_
        rintro e w' ⟨rfl, hw⟩
        replace hw := hw.symm
        subst hw
        go_wp2_with fail
        refine HR.out.mono ?_
        rintro e w1 ⟨v, rfl, ho, hb1⟩
        have O1 := hide ho
        clear ho
        go_wp2_with fail
        refine (HGO.out w1 v O1.out).mono ?_
        rintro e w2 ⟨rfl, hb2⟩
        have HY1 := hide (HY.out v w2 (own_below O1.out hb2) (hb1.trans (hb2.mono hb1.size)))
        clear O1 hb1 hb2
        go_wp2
        go_ret2
        exact HY1.out
      | false =>
        rw [hg] at hB HGO
        have HY := hide (fun w' hb => ro_no (w := w) (w' := w') hB hb)
        clear h1 h2 h4 h5 hbd hB hg
        go_enter Tryd.func10, Tryd.ntmps10
        go_wp2_with fail
        refine H.out.mono ?_
        rintro e w' ⟨rfl, hw⟩
        replace hw := hw.symm
        subst hw
        go_wp2_with fail
        refine HG.out.mono ?_
        rintro e w' ⟨rfl, hw⟩
        replace hw := hw.symm
        subst hw
        go_wp2_with fail
        refine HR.out.mono ?_
        rintro e w1 ⟨v, rfl, ho, hb1⟩
        have O1 := hide ho
        clear ho
        go_wp2_with fail
        refine (HGO.out w1 v O1.out).mono ?_
        rintro e w2 ⟨rfl, hb2⟩
        have HY1 := hide (HY.out w2 (hb1.trans (hb2.mono hb1.size)))
        clear O1 hb1 hb2
        go_wp2
        go_ret2
        exact HY1.out
    · rw [Bool.not_eq_true] at h2
      have HY := hide (ro_no (p := p) (s := s) (W := W) (w := w) (by unfold rpB rpOk; rw [h2, Bool.and_false]; rfl) (Below.refl _ _))
      rw [h2] at HG
      replace HG := hide HG
      clear h1 h2
      go_enter Tryd.func10, Tryd.ntmps10
      go_wp2_with fail
      refine H.out.mono ?_
      rintro e w' ⟨rfl, hw⟩
      replace hw := hw.symm
      subst hw
      go_wp2_with fail
      refine HG.out.mono ?_
      rintro e w' ⟨rfl, hw⟩
      replace hw := hw.symm
      subst hw
      go_wp2
      go_ret2
      exact HY.out
  · rw [Bool.not_eq_true] at h1
    have HY := hide (ro_no (p := p) (s := s) (W := W) (w := w) (by unfold rpB rpOk; rw [h1]; rfl) (Below.refl _ _))
    rw [h1] at H
    replace H := hide H
    clear h1 HG
    go_enter Tryd.func10, Tryd.ntmps10
    go_wp2_with fail
    refine H.out.mono ?_
    rintro e w' ⟨rfl, hw⟩
    replace hw := hw.symm
    subst hw
    go_wp2
    go_ret2
    exact HY.out
end Go.Proofs.YtfiefklhhchebabDoor
