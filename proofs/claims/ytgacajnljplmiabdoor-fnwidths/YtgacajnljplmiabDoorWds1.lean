/- The words of a text: the program's (by the library's fields) and the model's. -/
import Derived.Test.YtgacajnljplmiabDoorLina
import Derived.Test.YtgacajnljplmiabDoorWalks6
import Derived.Test.YtgacajnljplmiabDoorShelf
import Derived.Lib.Fields
set_option linter.unusedVariables false
namespace Go.Proofs.YtgacajnljplmiabDoor
open Go.RowKit
open Doc1

theorem flt_pl (l : List UInt8) : ∀ c ∈ flt true l, plB c = true := fun c hc => by
  unfold flt at hc
  simpa using (List.mem_filter.1 hc).2
theorem sp_pl (c : UInt8) (h : plB c = true) : Lib.isSp c = (c.toNat == 32) := by
  have key : ∀ n, n < 256 → plN n = true → Lib.isSp (UInt8.ofNat n) = (n == 32) := by decide +kernel
  have := key c.toNat (UInt8.toNat_lt c) h
  rw [UInt8.ofNat_toNat] at this
  exact this
def baL (x : List UInt8) : ByteArray := ⟨x.toArray⟩
def wdsL (l : List UInt8) : List ByteArray := (Lib.fields l).map baL
theorem baL_size (x : List UInt8) : (baL x).size = x.length := by rw [szB]; rfl
theorem fg_tot : ∀ (l cur : List UInt8), ((Lib.fieldsGo cur l).map List.length).sum ≤ cur.length + l.length
  | [], cur => by unfold Lib.fieldsGo; split <;> simp
  | b :: l, cur => by
    unfold Lib.fieldsGo
    split
    · split
      · have := fg_tot l []; simp at this ⊢; omega
      · have := fg_tot l []; simp at this ⊢; omega
    · have := fg_tot l (cur ++ [b]); simp at this ⊢; omega
theorem fg_pos : ∀ (l cur : List UInt8), ∀ x ∈ Lib.fieldsGo cur l, x ≠ []
  | [], cur, x, hx => by
    unfold Lib.fieldsGo at hx
    split at hx
    · cases hx
    · rename_i h; have : x = cur := by simpa using hx
      subst this; intro e; subst e; simp at h
  | b :: l, cur, x, hx => by
    unfold Lib.fieldsGo at hx
    split at hx
    · split at hx
      · exact fg_pos l [] x hx
      · rename_i h
        rcases List.mem_cons.1 hx with rfl | hx
        · intro e; subst e; simp at h
        · exact fg_pos l [] x hx
    · exact fg_pos l (cur ++ [b]) x hx
theorem len_sum : ∀ (l : List (List UInt8)), (∀ x ∈ l, x ≠ []) → l.length ≤ (l.map List.length).sum
  | [], _ => by simp
  | x :: l, h => by
    have h1 := len_sum l (fun y hy => h y (by simp [hy]))
    have h2 : 0 < x.length := List.length_pos_iff.2 (h x (by simp))
    simp
    omega
theorem mem_sum : ∀ (l : List (List UInt8)) (x : List UInt8), x ∈ l → x.length ≤ (l.map List.length).sum
  | y :: l, x, h => by
    rcases List.mem_cons.1 h with rfl | h
    · simp
    · have := mem_sum l x h; simp; omega
theorem wds_bd (l : List UInt8) (h : l.length ≤ 300) : (wdsL l).length ≤ 300 ∧ ∀ s ∈ wdsL l, s.size ≤ 300 := by
  have h1 := fg_tot l []
  have h2 := len_sum _ (fg_pos l [])
  refine ⟨by unfold wdsL Lib.fields; rw [List.length_map]; simp at h1; omega, fun s hs => ?_⟩
  obtain ⟨x, hx, rfl⟩ := List.mem_map.1 hs
  have := mem_sum _ x hx
  rw [baL_size]
  simp at h1
  unfold Lib.fields at this
  omega
def wdP (s : ByteArray) : ByteArray := if good s.data.toList = true then ⟨(flt true s.data.toList).toArray⟩ else ⟨#[]⟩
def wdT (s : ByteArray) : List ByteArray × Bool := if good s.data.toList = true ∧ saidW (wdsL (wdP s).data.toList) = true then (wdsL (wdP s).data.toList, true) else ([], false)
theorem wdP_ok (s : ByteArray) : (∀ c ∈ (wdP s).data.toList, plB c = true) ∧ (wdP s).size ≤ 300 := by
  unfold wdP
  by_cases h : good s.data.toList = true
  · rw [if_pos h]
    refine ⟨fun c hc => flt_pl _ c (by simpa using hc), ?_⟩
    rw [szB]
    have h1 := flt_len true s.data.toList
    unfold good at h
    simp only [Bool.and_eq_true, decide_eq_true_eq] at h
    show (flt true s.data.toList).length ≤ 300
    omega
  · rw [if_neg h]
    exact ⟨fun c hc => by simp at hc, by show 0 ≤ 300; omega⟩
def TabS (w : World) : Prop := Lib.TabIs Tryd.prog w "strings.asciiSpace" .u8 Lib.asciiSpaceTab

set_option maxRecDepth 100000 in
set_option maxHeartbeats 2000000 in
theorem wordsI_any (s : ByteArray) (w : World) (hs : s.size ≤ 1048576) (hT : Tab w) (hS : ∀ w', Below w.heap.size w w' → TabS w') :
    Calls Tryd.prog 13 #[.string s] w (LbPost (wdT s).1 (wdT s).2 w) := by
  have P := hide (plainOfI_any s w hs hT)
  have hp := wdP_ok s
  rw [show (if good s.data.toList = true then (⟨(flt true s.data.toList).toArray⟩ : ByteArray) else ⟨#[]⟩) = wdP s from rfl] at P
  obtain ⟨R, hR⟩ : ∃ R, R = wdT s := ⟨_, rfl⟩
  rw [← hR]
  unfold wdT at hR
  obtain ⟨p, hpp⟩ : ∃ p, p = wdP s := ⟨_, rfl⟩
  rw [← hpp] at P hp hR
  have hbd := wds_bd p.data.toList (by rw [← szB]; exact hp.2)
  have F := hide (fun w' (hb : Below w.heap.size w w') => Tryd.strings_Fields_laid p w' (by have := hp.2; omega) (fun j b hj => pl_low b (hp.1 b (List.mem_of_getElem? hj))) (hS w' hb))
  obtain ⟨W, hW⟩ : ∃ W, W = wdsL p.data.toList := ⟨_, rfl⟩
  have hWc : ((Lib.fields p.data.toList).map fun l => Value.string ⟨l.toArray⟩).toArray = (encSt W).toArray := by rw [hW]; unfold encSt wdsL; rw [List.map_map]; rfl
  have hWl : (Lib.fields p.data.toList).length = W.length := by rw [hW]; unfold wdsL; rw [List.length_map]
  rw [hWc, hWl] at F
  rw [← hW] at hR hbd
  have hl3 := hbd.1
  have A : Hid (∀ w' (hb : Below w.heap.size w w') (hx : StIn w' (some ⟨w'.heap.size - 1, 0, none⟩) W.length W), Calls Tryd.prog 53 #[.slice (some ⟨w'.heap.size - 1, 0, none⟩) W.length W.length] w' fun e w'' => e = .returned (.bool (saidW W)) ∧ w'' = w') := hide (fun w' hb hx => areWords_any W _ _ w' hx (fun s hs => by have := hbd.2 s hs; omega) (hT.below hb))
  obtain ⟨bg, hbg⟩ : ∃ bg, bg = good s.data.toList := ⟨_, rfl⟩
  rw [← hbg] at P hR
  have HR := hide hR
  clear hWc hWl hW hpp hp hbd hT hS hbg hR
  go_enter Tryd.func13, Tryd.ntmps13
  go_wp2_with fail
  refine P.out.mono ?_
  rintro e w1 ⟨rfl, hb1⟩
  have F1 := hide (F.out w1 hb1)
  have HB1 := hide hb1
  clear hb1 P
  go_wp2_with fail
  refine F1.out.mono ?_
  rintro e w2 ⟨rfl, hw2⟩
  have hb2 : Below w1.heap.size w1 w2 := by rw [hw2]; exact (Below.refl _ _).alloc (Nat.le_refl _) _
  have hs2 : w2.heap.size - 1 = w1.heap.size := by rw [hw2]; simp
  have ho2 : SOwn w2 w1.heap.size (.slice (some ⟨w1.heap.size, 0, none⟩) W.length W.length) W := by
    rw [hw2]
    exact ⟨by rw [encSt_len, Nat.mul_one], .inr ⟨w1.heap.size, W.length, (encSt W).toArray, rfl, Nat.le_refl _, heap_alloc_new w1 _, Nat.le_refl _, by unfold maxLen; omega, by rw [List.size_toArray, encSt_len, Nat.mul_one], by rw [Nat.mul_one]; exact List.take_of_length_le (by rw [encSt_len]; omega)⟩⟩
  have hst : StIn w2 (some ⟨w1.heap.size, 0, none⟩) W.length W := by
    obtain ⟨a, c, e, h⟩ := ho2.st
    injection e with e1 e2 e3
    subst e1 e3
    exact h
  have HB2 : Hid (Below w.heap.size w w2) := hide (HB1.out.trans (hb2.mono HB1.out.size))
  have A1 := hide (A.out w2 HB2.out (by rw [hs2]; exact hst))
  rw [hs2] at A1
  have HO := hide (own_mono ho2 HB1.out.size)
  clear hb2 hs2 ho2 hst hw2 A F F1
  cases bg with
  | false =>
    obtain rfl : R = ([], false) := by rw [HR.out, if_neg (fun e => by cases e.1)]
    clear HR
    go_wp2
    go_ret2
    exact ⟨_, rfl, World.ownsRow_nil _ _ _ _, HB2.out⟩
  | true =>
    by_cases hq : saidW W = true
    · obtain rfl : R = (W, true) := by rw [HR.out, if_pos ⟨rfl, hq⟩]
      rw [hq] at A1
      clear HR hq
      go_wp2_with (go_at_call 53; refine A1.out.mono ?_; rintro e w9 ⟨rfl, hw'⟩; replace hw' := hw'.symm; subst hw')
      go_ret2
      exact ⟨_, rfl, HO.out, HB2.out⟩
    · have hq2 : saidW W = false := by simpa using hq
      obtain rfl : R = ([], false) := by rw [HR.out, if_neg (fun e => hq e.2)]
      rw [hq2] at A1
      clear HR hq hq2
      go_wp2_with (go_at_call 53; refine A1.out.mono ?_; rintro e w9 ⟨rfl, hw'⟩; replace hw' := hw'.symm; subst hw')
      go_ret2
      exact ⟨_, rfl, World.ownsRow_nil _ _ _ _, HB2.out⟩
end Go.Proofs.YtgacajnljplmiabDoor
