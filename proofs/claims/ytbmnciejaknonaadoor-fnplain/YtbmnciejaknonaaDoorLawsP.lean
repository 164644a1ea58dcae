/- The law FnPlain: plain bytes and all others are together all bytes, and an outline of a document is one. -/
import Derived.Test.YtbmnciejaknonaaDoorDraw4
import Derived.Test.YtbmnciejaknonaaDoorPlain3
import Derived.Test.YtbmnciejaknonaaDoorWalks8
namespace Go.Proofs.YtbmnciejaknonaaDoor
open Go.RowKit
open Doc1

theorem code_later {C : Value} {w w' : World} (h : CodeAt w.heap.size C w) (hb : Below w.heap.size w w') : CodeAt w'.heap.size C w' := by
  cases h with
  | nil _ a cap => exact .nil w' a cap
  | row _ b o len cap hne hl h =>
    by_cases h0 : len = 0
    · subst h0; exact .nil w' _ cap
    · obtain ⟨x0, _, _, hx0⟩ := h 0 (by omega)
      have hlt : b < w.heap.size := by
        unfold World.cell? at hx0
        apply Classical.byContradiction
        intro hn
        rw [Array.getElem?_eq_none (by simpa using hn)] at hx0
        simp at hx0
      refine .row w' b o len cap (by have := hb.size; omega) hl (fun j hj => ?_)
      obtain ⟨x, h1, h2, hx⟩ := h j hj
      exact ⟨x, h1, h2, by rw [hb.cell (p := ⟨b, o + j, none⟩) hlt]; exact hx⟩

set_option maxRecDepth 100000 in
set_option maxHeartbeats 4000000 in
theorem law_plain (C C2 : Value) (w : World) (hco : CodeAt w.heap.size C w) (hco2 : CodeAt w.heap.size C2 w) (hlen : ∀ a len cap, C = .slice a len cap → len ≤ 140737488355328) (hlen2 : ∀ a len cap, C2 = .slice a len cap → len ≤ 140737488355328) (hT : Tab w) :
    Calls Tryd.prog 4 #[C, C2] w fun e w' => e = .returned (.bool true) ∧ Below w.heap.size w w' := by
  have H0 := hidI (drawPlainOf_any C w hco)
  replace hco2 := hidI hco2
  obtain ⟨a, len, cap, rfl⟩ := hco.shape
  obtain ⟨a2, len2, cap2, hC2⟩ := hco2.out.shape
  have l1 := hlen a len cap rfl
  have l2 := hlen2 a2 len2 cap2 hC2
  clear hlen hlen2 hco
  by_cases hl : (len : Int) + len2 ≤ 1048576
  · subst hC2
    go_enter Tryd.func4, Tryd.ntmps4
    go_wp2_with fail
    refine H0.out.mono ?_
    rintro e w1 ⟨s, rfl, hs, hb1⟩
    clear H0
    have hs' : s.size ≤ 1048576 := by omega
    have T1 := hidI (hT.below hb1)
    by_cases hg : good s.data.toList = true
    · have hpl : (flt true s.data.toList).length + (flt false s.data.toList).length = s.size := by rw [flt_both, size_len]
      have gO : Hid (∀ w', Tab w' → Calls Tryd.prog 14 #[.string ⟨(flt false s.data.toList).toArray⟩] w' fun e w'' => e = .returned (.bool (doc s.data.toList)) ∧ Below w'.heap.size w' w'') := fun w' h => by
        have h1 := goodDocI_any ⟨(flt false s.data.toList).toArray⟩ w' (by show (flt false s.data.toList).toArray.size ≤ 1048576; simp; omega) h
        have h2 : doc (⟨(flt false s.data.toList).toArray⟩ : ByteArray).data.toList = doc s.data.toList := doc_flt _ hg
        rw [h2] at h1; exact h1
      have gS : Hid (∀ w', Tab w' → Calls Tryd.prog 14 #[.string s] w' fun e w'' => e = .returned (.bool (doc s.data.toList)) ∧ Below w'.heap.size w' w'') := fun w' h => goodDocI_any s w' hs' h
      have pI : Hid (∀ w', Tab w' → Calls Tryd.prog 19 #[.string s] w' fun e w'' => e = .returned (.tuple #[.string ⟨(flt true s.data.toList).toArray⟩, .bool true]) ∧ Below w'.heap.size w' w'') := fun w' h => by have := plainOfI_any s w' hs' h; rw [if_pos hg, hg] at this; exact this
      have oI : Hid (∀ w', Tab w' → Calls Tryd.prog 20 #[.string s] w' fun e w'' => e = .returned (.tuple #[.string ⟨(flt false s.data.toList).toArray⟩, .bool true]) ∧ Below w'.heap.size w' w'') := fun w' h => by have := outlineOfI_any s w' hs' h; rw [if_pos hg, hg] at this; exact this
      have pS : Hid (∀ w', Calls Tryd.prog 21 #[.string s] w' fun e w'' => e = .returned (.tuple #[.string ⟨(flt true s.data.toList).toArray⟩, .bool true]) ∧ Below w'.heap.size w' w'') := fun w' => by have := plainOfS_any s w' hs'; rw [if_pos hg, hg] at this; exact this
      have oS : Hid (∀ w', Calls Tryd.prog 22 #[.string s] w' fun e w'' => e = .returned (.tuple #[.string ⟨(flt false s.data.toList).toArray⟩, .bool true]) ∧ Below w'.heap.size w' w'') := fun w' => by have := outlineOfS_any s w' hs'; rw [if_pos hg, hg] at this; exact this
      have e1 : (⟨(flt true s.data.toList).toArray⟩ : ByteArray).size = (flt true s.data.toList).length := by show (flt true s.data.toList).toArray.size = _; simp
      have e2 : (⟨(flt false s.data.toList).toArray⟩ : ByteArray).size = (flt false s.data.toList).length := by show (flt false s.data.toList).toArray.size = _; simp
      rw [← e1, ← e2] at hpl
      clear e1 e2
      have hgD := hidI hg
      clear hg
      generalize (⟨(flt true s.data.toList).toArray⟩ : ByteArray) = p at pI pS hpl
      generalize (⟨(flt false s.data.toList).toArray⟩ : ByteArray) = o at oI oS gO hpl
      generalize doc s.data.toList = b at gO gS
      have htest : (((p.size : Int) + (o.size : Int)) == (s.size : Int)) = true := by simp; omega
      have hp1 : p.size ≤ 1048576 := by omega
      have ho1 : o.size ≤ 1048576 := by omega
      have hpl' := hidI hpl
      clear hpl
      have Mx := hidI (pI.out w1 T1.out)
      go_wp2_with fail
      refine Mx.out.mono ?_
      rintro e w2 ⟨rfl, hb'⟩
      have hb2 := hb1.trans (hb'.mono hb1.size)
      clear Mx hb' hb1 T1
      have T2 := hidI (hT.below hb2)
      have Mx := hidI (oI.out w2 T2.out)
      go_wp2_with fail
      refine Mx.out.mono ?_
      rintro e w3 ⟨rfl, hb'⟩
      have hb3 := hb2.trans (hb'.mono hb2.size)
      clear Mx hb' hb2 T2
      have T3 := hidI (hT.below hb3)
      have Mx := hidI (pS.out w3)
      go_wp2_with fail
      refine Mx.out.mono ?_
      rintro e w4 ⟨rfl, hb'⟩
      have hb4 := hb3.trans (hb'.mono hb3.size)
      clear Mx hb' hb3 T3
      have T4 := hidI (hT.below hb4)
      have Mx := hidI (oS.out w4)
      go_wp2_with fail
      refine Mx.out.mono ?_
      rintro e w5 ⟨rfl, hb'⟩
      have hb5 := hb4.trans (hb'.mono hb4.size)
      clear Mx hb' hb4 T4
      have T5 := hidI (hT.below hb5)
      have Mx := hidI (drawCountOf_any (.slice a2 len2 cap2) w5 (code_later hco2.out hb5))
      go_wp2_with fail
      refine Mx.out.mono ?_
      rintro e w6 ⟨d, m, rfl, hd, hm, hb'⟩
      have hb6 := hb5.trans (hb'.mono hb5.size)
      clear Mx hb' hb5 T5
      have T6 := hidI (hT.below hb6)
      have hd' : d.size ≤ 1048576 := by omega
      obtain ⟨x, y, hcn⟩ := cn_ex d m
      have HC := hidI hcn
      clear hcn
      have Mx := hidI (countI_any d m x y w6 hd' T6.out HC.out)
      go_wp2_with fail
      refine Mx.out.mono ?_
      rintro e w7 ⟨rfl, hb'⟩
      have hb7 := hb6.trans (hb'.mono hb6.size)
      clear Mx hb' hb6 T6
      have T7 := hidI (hT.below hb7)
      have Mx := hidI (countS_any d m x y w7 hd' HC.out)
      go_wp2_with fail
      refine Mx.out.mono ?_
      rintro e w8 ⟨rfl, hb'⟩
      have hb8 := hb7.trans (hb'.mono hb7.size)
      clear Mx hb' hb7 T7
      have T8 := hidI (hT.below hb8)
      have Mx := hidI (gO.out w8 T8.out)
      go_wp2_with fail
      refine Mx.out.mono ?_
      rintro e w9 ⟨rfl, hb'⟩
      have hb9 := hb8.trans (hb'.mono hb8.size)
      clear Mx hb' hb8 T8
      have T9 := hidI (hT.below hb9)
      have Mx := hidI (gS.out w9 T9.out)
      go_wp2_with fail
      refine Mx.out.mono ?_
      rintro e w10 ⟨rfl, hb'⟩
      have hb10 := hb9.trans (hb'.mono hb9.size)
      clear Mx hb' hb9 T9
      have T10 := hidI (hT.below hb10)
      go_wp2
      all_goals first
        | (go_ret; exact ⟨rfl, hb10⟩)
        | (exfalso; simp_all)
    · have hg' : good s.data.toList = false := by simpa using hg
      have pI : Hid (∀ w', Tab w' → Calls Tryd.prog 19 #[.string s] w' fun e w'' => e = .returned (.tuple #[.string ⟨#[]⟩, .bool false]) ∧ Below w'.heap.size w' w'') := fun w' h => by have := plainOfI_any s w' hs' h; rw [if_neg hg, hg'] at this; exact this
      have oI : Hid (∀ w', Tab w' → Calls Tryd.prog 20 #[.string s] w' fun e w'' => e = .returned (.tuple #[.string ⟨#[]⟩, .bool false]) ∧ Below w'.heap.size w' w'') := fun w' h => by have := outlineOfI_any s w' hs' h; rw [if_neg hg, hg'] at this; exact this
      have pS : Hid (∀ w', Calls Tryd.prog 21 #[.string s] w' fun e w'' => e = .returned (.tuple #[.string ⟨#[]⟩, .bool false]) ∧ Below w'.heap.size w' w'') := fun w' => by have := plainOfS_any s w' hs'; rw [if_neg hg, hg'] at this; exact this
      have oS : Hid (∀ w', Calls Tryd.prog 22 #[.string s] w' fun e w'' => e = .returned (.tuple #[.string ⟨#[]⟩, .bool false]) ∧ Below w'.heap.size w' w'') := fun w' => by have := outlineOfS_any s w' hs'; rw [if_neg hg, hg'] at this; exact this
      clear hg hg'
      have Mx := hidI (pI.out w1 T1.out)
      go_wp2_with fail
      refine Mx.out.mono ?_
      rintro e w2 ⟨rfl, hb'⟩
      have hb2 := hb1.trans (hb'.mono hb1.size)
      clear Mx hb' hb1 T1
      have T2 := hidI (hT.below hb2)
      have Mx := hidI (oI.out w2 T2.out)
      go_wp2_with fail
      refine Mx.out.mono ?_
      rintro e w3 ⟨rfl, hb'⟩
      have hb3 := hb2.trans (hb'.mono hb2.size)
      clear Mx hb' hb2 T2
      have T3 := hidI (hT.below hb3)
      have Mx := hidI (pS.out w3)
      go_wp2_with fail
      refine Mx.out.mono ?_
      rintro e w4 ⟨rfl, hb'⟩
      have hb4 := hb3.trans (hb'.mono hb3.size)
      clear Mx hb' hb3 T3
      have T4 := hidI (hT.below hb4)
      have Mx := hidI (oS.out w4)
      go_wp2_with fail
      refine Mx.out.mono ?_
      rintro e w5 ⟨rfl, hb'⟩
      have hb5 := hb4.trans (hb'.mono hb4.size)
      clear Mx hb' hb4 T4
      have T5 := hidI (hT.below hb5)
      go_wp2
      all_goals first
        | (go_ret; exact ⟨rfl, hb5⟩)
        | (exfalso; simp_all)
  · subst hC2
    clear H0
    go_enter Tryd.func4, Tryd.ntmps4
    go_wp2
    go_ret
    exact ⟨rfl, Below.refl _ _⟩
end Go.Proofs.YtbmnciejaknonaaDoor
