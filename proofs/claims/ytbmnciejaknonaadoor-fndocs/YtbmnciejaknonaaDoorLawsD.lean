/- The law FnDocs: beginnings and ends tell one another, what lies between is a document, depths there are one more. -/
import Derived.Test.YtbmnciejaknonaaDoorDraw4
import Derived.Test.YtbmnciejaknonaaDoorPlain3
import Derived.Test.YtbmnciejaknonaaDoorWalks7
namespace Go.Proofs.YtbmnciejaknonaaDoor
open Go.RowKit
open Doc1

/-- The three ways of FnDocs: nothing begins or ends there; an element begins; one ends. -/
theorem docs_cases (s : ByteArray) (a : Int) : (MT s a 0 false ∧ IN s a ⟨#[]⟩ false) ∨
    (∃ (n K : Nat) (hn : n < s.size), a = n ∧ doc s.data.toList = true ∧ opB s[n] = true ∧ IsEnd s n K) ∨
    (∃ (n K : Nat) (hn : n < s.size), a = n ∧ doc s.data.toList = true ∧ enB s[n] = true ∧ IsBegin s n K) := by
  obtain ⟨x, b, h⟩ := mt_ex s a
  cases h with
  | nodoc _ h => exact .inl ⟨.nodoc a h, .nodoc a h⟩
  | out _ h h2 => exact .inl ⟨.out a h h2, .out a h h2⟩
  | plain n h hn hp => exact .inl ⟨.plain n h hn hp, .plain n h hn hp⟩
  | opens n K h hn hp hK => exact .inr (.inl ⟨n, K, hn, rfl, h, hp, hK⟩)
  | ends n K h hn hp hK => exact .inr (.inr ⟨n, K, hn, rfl, h, hp, hK⟩)

theorem docs_back_end {s : ByteArray} {n K : Nat} (hd : doc s.data.toList = true) (hK : IsEnd s n K) (hp : opB (s[n]'(by have := hK.lo; have := hK.hi; omega)) = true) : MT s K n true := by
  have h := end_begin hK (dl_of_op hp)
  exact .ends K n hd hK.hi (en_of_dl h.1) h.2.1
theorem docs_back_begin {s : ByteArray} {n K : Nat} (hd : doc s.data.toList = true) (hK : IsBegin s n K) (hp : enB (s[n]'hK.hi) = true) : MT s K n true := by
  have h := begin_end hK (dl_of_en hp)
  exact .opens K n hd (by have := hK.lo; have := hK.hi; omega) (op_of_dl h.1) h.2.1
theorem docs_safe {s : ByteArray} {n K : Nat} (hd : doc s.data.toList = true) (hK : IsEnd s n K) (hp : opB (s[n]'(by have := hK.lo; have := hK.hi; omega)) = true) : rn (s.extract n (K + 1)).data.toList 0 = true := by
  have hlo := hK.lo
  have hhi := hK.hi
  have g := end_gt hK (dl_of_op hp)
  refine rn_extract s n (K + 1) (by omega) (by omega) (fun j h1 h2 => ?_) hK.at_
  have b1 := dep_bd s hd j (by omega)
  have b2 := dep_bd s hd n (by omega)
  refine ⟨?_, by omega⟩
  by_cases e : j = n
  · subst e; omega
  · by_cases e2 : j = K + 1
    · subst e2; have := hK.at_; omega
    · have := g j (by omega) (by omega); omega
theorem docs_inner {s : ByteArray} {n K : Nat} (hd : doc s.data.toList = true) (hK : IsEnd s n K) (hp : opB (s[n]'(by have := hK.lo; have := hK.hi; omega)) = true) : doc (s.extract (n + 1) K).data.toList = true := by
  have hlo := hK.lo
  have hhi := hK.hi
  have g := end_gt hK (dl_of_op hp)
  have hn1 := dep_succ s n (by omega)
  rw [dl_of_op hp] at hn1
  have hKd := (end_begin hK (dl_of_op hp)).2.2
  rw [rn_doc_sub s hd]
  refine rn_extract s (n + 1) K (by omega) (by omega) (fun j h1 h2 => ?_) (by omega)
  have b1 := dep_bd s hd j (by omega)
  have b2 := dep_bd s hd (n + 1) (by omega)
  have := g j (by omega) h2
  exact ⟨by omega, by omega⟩

theorem depAt_in {s : ByteArray} {n : Nat} (hd : doc s.data.toList = true) (hn : n ≤ s.size) : depAt s.data.toList n = (dep s.data.toList n, true) := by
  rw [depAt_yes hd (by omega) (by rw [size_len]; omega)]
  simp

set_option maxRecDepth 100000 in
set_option maxHeartbeats 4000000 in
theorem law_docs (C : Value) (w : World) (hco : CodeAt w.heap.size C w) (hT : Tab w) :
    Calls Tryd.prog 3 #[C] w fun e w' => e = .returned (.bool true) ∧ Below w.heap.size w w' := by
  have H0 := hidI (drawMatchOf_any C w hco)
  obtain ⟨a, len, cap, rfl⟩ := hco.shape
  clear hco
  by_cases hl : len ≤ 1048576
  · go_enter Tryd.func3, Tryd.ntmps3
    go_wp2_with fail
    refine H0.out.mono ?_
    rintro e w1 ⟨s, at_, rfl, hs, ha0, ha1, hb1⟩
    clear H0
    have hs' : s.size ≤ 1048576 := by omega
    rcases docs_cases s at_ with ⟨hmt, hin⟩ | ⟨n, K, hn, rfl, hd, hp, hK⟩ | ⟨n, K, hn, rfl, hd, hp, hK⟩
    · have T1 := hidI (hT.below hb1)
      have Mx := hidI (matchI_any s at_ 0 false w1 hs' T1.out hmt)
      go_wp2_with fail
      refine Mx.out.mono ?_
      rintro e w2 ⟨rfl, hb'⟩
      have hb2 := hb1.trans (hb'.mono hb1.size)
      clear Mx hb' hb1 T1
      have T2 := hidI (hT.below hb2)
      have Mx := hidI (matchS_any s at_ 0 false w2 hs' hmt)
      go_wp2_with fail
      refine Mx.out.mono ?_
      rintro e w' ⟨rfl, hw⟩
      replace hw := hw.symm
      subst hw
      clear Mx
      have Mx := hidI (innerI_any s at_ ⟨#[]⟩ false w2 hs' T2.out hin)
      go_wp2_with fail
      refine Mx.out.mono ?_
      rintro e w3 ⟨rfl, hb'⟩
      have hb3 := hb2.trans (hb'.mono hb2.size)
      clear Mx hb' hb2 T2
      have T3 := hidI (hT.below hb3)
      have Mx := hidI (innerS_any s at_ ⟨#[]⟩ false w3 hs' hin)
      go_wp2_with fail
      refine Mx.out.mono ?_
      rintro e w' ⟨rfl, hw⟩
      replace hw := hw.symm
      subst hw
      clear Mx
      have Mx := hidI (goodDocI_any s w3 hs' T3.out)
      go_wp2_with fail
      refine Mx.out.mono ?_
      rintro e w4 ⟨rfl, hb'⟩
      have hb4 := hb3.trans (hb'.mono hb3.size)
      clear Mx hb' hb3 T3
      have T4 := hidI (hT.below hb4)
      have Mx := hidI (goodDocS_any s w4 hs')
      go_wp2_with fail
      refine Mx.out.mono ?_
      rintro e w' ⟨rfl, hw⟩
      replace hw := hw.symm
      subst hw
      clear Mx
      go_wp2
      all_goals first
        | (go_ret; exact ⟨rfl, hb4⟩)
        | (exfalso; simp_all)
    · have T1 := hidI (hT.below hb1)
      have hs2 := hidI hs'
      have d1 : Hid (∀ w', Tab w' → Calls Tryd.prog 14 #[.string s] w' fun e w'' => e = .returned (.bool true) ∧ Below w'.heap.size w' w'') := fun w' h => by have := goodDocI_any s w' hs' h; rw [hd] at this; exact this
      have d2 : Hid (∀ w', Calls Tryd.prog 15 #[.string s] w' fun e w'' => e = .returned (.bool true) ∧ w'' = w') := fun w' => by have := goodDocS_any s w' hs'; rw [hd] at this; exact this
      have mA : Hid (MT s n K true) := MT.opens n K hd hn hp hK
      have iA := IN.opens n K hd hn hp hK
      have mB : Hid (MT s K n true) := docs_back_end hd hK hp
      have hlo := hK.lo
      have hhi := hK.hi
      have hdep := (end_begin hK (dl_of_op hp)).2.2
      have hbd := dep_bd s hd n (by omega)
      have dA : ∀ w', Tab w' → Calls Tryd.prog 16 #[.string s, .int .i64 n] w' fun e w'' => e = .returned (.tuple #[.int .i64 (dep s.data.toList n), .bool true]) ∧ Below w'.heap.size w' w'' := fun w' h => by have := depthAtI_any s n w' hs' h; rw [depAt_in hd (by omega)] at this; exact this
      have dB : ∀ w', Tab w' → Calls Tryd.prog 16 #[.string s, .int .i64 K] w' fun e w'' => e = .returned (.tuple #[.int .i64 (dep s.data.toList n + 1), .bool true]) ∧ Below w'.heap.size w' w'' := fun w' h => by have := depthAtI_any s K w' hs' h; rw [depAt_in hd (by omega), hdep] at this; exact this
      have sP : Hid (∀ w', Tab w' → Calls Tryd.prog 17 #[.string s, .int .i64 n, .int .i64 ((K : Int) + 1)] w' fun e w'' => e = .returned (.tuple #[.bool true, .bool true]) ∧ Below w'.heap.size w' w'') := fun w' h => by have := safePlaceI_any s n ((K + 1 : Nat) : Int) _ _ w' hs' h (SP.yes n (K + 1) hd (by omega) (by omega)); rw [docs_safe hd hK hp, show ((K + 1 : Nat) : Int) = (K : Int) + 1 by omega] at this; exact this
      have dI : ∀ w', Tab w' → Calls Tryd.prog 14 #[.string (s.extract (n + 1) K)] w' fun e w'' => e = .returned (.bool true) ∧ Below w'.heap.size w' w'' := fun w' h => by have := goodDocI_any (s.extract (n + 1) K) w' (by rw [ByteArray.size_extract]; omega) h; rw [docs_inner hd hK hp] at this; exact this
      have hxs : (s.extract (n + 1) K).size = K - (n + 1) := by rw [ByteArray.size_extract]; omega
      generalize s.extract (n + 1) K = x at iA dI hxs
      generalize dep s.data.toList n = p at dA dB hbd
      have htest : (((x.size : Int)) == (K : Int) - n - 1) = true := by rw [hxs]; simp; omega
      have hxl : x.size ≤ 1048576 := by omega
      replace iA := hidI iA
      replace dA := hidI dA
      replace dB := hidI dB
      replace dI := hidI dI
      have hgt : (n : Int) < K := by omega
      clear hdep hd hp hK hxs
      have Mx := hidI (matchI_any s n K true w1 hs2.out T1.out mA.out)
      go_wp2_with fail
      refine Mx.out.mono ?_
      rintro e w2 ⟨rfl, hb'⟩
      have hb2 := hb1.trans (hb'.mono hb1.size)
      clear Mx hb' hb1 T1
      have T2 := hidI (hT.below hb2)
      have Mx := hidI (matchS_any s n K true w2 hs2.out mA.out)
      go_wp2_with fail
      refine Mx.out.mono ?_
      rintro e w' ⟨rfl, hw⟩
      replace hw := hw.symm
      subst hw
      clear Mx
      have Mx := hidI (innerI_any s n x true w2 hs2.out T2.out iA.out)
      go_wp2_with fail
      refine Mx.out.mono ?_
      rintro e w3 ⟨rfl, hb'⟩
      have hb3 := hb2.trans (hb'.mono hb2.size)
      clear Mx hb' hb2 T2
      have T3 := hidI (hT.below hb3)
      have Mx := hidI (innerS_any s n x true w3 hs2.out iA.out)
      go_wp2_with fail
      refine Mx.out.mono ?_
      rintro e w' ⟨rfl, hw⟩
      replace hw := hw.symm
      subst hw
      clear Mx
      have Mx := hidI (d1.out w3 T3.out)
      go_wp2_with fail
      refine Mx.out.mono ?_
      rintro e w4 ⟨rfl, hb'⟩
      have hb4 := hb3.trans (hb'.mono hb3.size)
      clear Mx hb' hb3 T3
      have T4 := hidI (hT.below hb4)
      have Mx := hidI (d2.out w4)
      go_wp2_with fail
      refine Mx.out.mono ?_
      rintro e w' ⟨rfl, hw⟩
      replace hw := hw.symm
      subst hw
      clear Mx
      have Mx := hidI (matchI_any s K n true w4 hs2.out T4.out mB.out)
      go_wp2_with fail
      refine Mx.out.mono ?_
      rintro e w5 ⟨rfl, hb'⟩
      have hb5 := hb4.trans (hb'.mono hb4.size)
      clear Mx hb' hb4 T4
      have T5 := hidI (hT.below hb5)
      have Mx := hidI (dA.out w5 T5.out)
      go_wp2_with fail
      refine Mx.out.mono ?_
      rintro e w6 ⟨rfl, hb'⟩
      have hb6 := hb5.trans (hb'.mono hb5.size)
      clear Mx hb' hb5 T5
      have T6 := hidI (hT.below hb6)
      have Mx := hidI (dB.out w6 T6.out)
      go_wp2_with fail
      refine Mx.out.mono ?_
      rintro e w7 ⟨rfl, hb'⟩
      have hb7 := hb6.trans (hb'.mono hb6.size)
      clear Mx hb' hb6 T6
      have T7 := hidI (hT.below hb7)
      have Mx := hidI (sP.out w7 T7.out)
      go_wp2_with fail
      refine Mx.out.mono ?_
      rintro e w8 ⟨rfl, hb'⟩
      have hb8 := hb7.trans (hb'.mono hb7.size)
      clear Mx hb' hb7 T7
      have T8 := hidI (hT.below hb8)
      have Mx := hidI (dI.out w8 T8.out)
      go_wp2_with fail
      refine Mx.out.mono ?_
      rintro e w9 ⟨rfl, hb'⟩
      have hb9 := hb8.trans (hb'.mono hb8.size)
      clear Mx hb' hb8 T8
      have T9 := hidI (hT.below hb9)
      go_wp2
      all_goals first
        | (go_ret; exact ⟨rfl, hb9⟩)
        | (exfalso; simp_all)
    · have T1 := hidI (hT.below hb1)
      have hs2 := hidI hs'
      have d1 : Hid (∀ w', Tab w' → Calls Tryd.prog 14 #[.string s] w' fun e w'' => e = .returned (.bool true) ∧ Below w'.heap.size w' w'') := fun w' h => by have := goodDocI_any s w' hs' h; rw [hd] at this; exact this
      have d2 : Hid (∀ w', Calls Tryd.prog 15 #[.string s] w' fun e w'' => e = .returned (.bool true) ∧ w'' = w') := fun w' => by have := goodDocS_any s w' hs'; rw [hd] at this; exact this
      have mA : Hid (MT s n K true) := MT.ends n K hd hn hp hK
      have iA := hidI (IN.ends n K hd hn hp hK)
      have mB : Hid (MT s K n true) := docs_back_begin hd hK hp
      have hlo := hK.lo
      have hhi := hK.hi
      have hdep := (begin_end hK (dl_of_en hp)).2.2
      have hbd := dep_bd s hd K (by omega)
      have dA : ∀ w', Tab w' → Calls Tryd.prog 16 #[.string s, .int .i64 n] w' fun e w'' => e = .returned (.tuple #[.int .i64 (dep s.data.toList K + 1), .bool true]) ∧ Below w'.heap.size w' w'' := fun w' h => by have := depthAtI_any s n w' hs' h; rw [depAt_in hd (by omega), hdep] at this; exact this
      have dB : ∀ w', Tab w' → Calls Tryd.prog 16 #[.string s, .int .i64 K] w' fun e w'' => e = .returned (.tuple #[.int .i64 (dep s.data.toList K), .bool true]) ∧ Below w'.heap.size w' w'' := fun w' h => by have := depthAtI_any s K w' hs' h; rw [depAt_in hd (by omega)] at this; exact this
      generalize dep s.data.toList K = p at dA dB hbd
      replace dA := hidI dA
      replace dB := hidI dB
      have hgt : (K : Int) < n := by omega
      clear hdep hd hp hK
      have Mx := hidI (matchI_any s n K true w1 hs2.out T1.out mA.out)
      go_wp2_with fail
      refine Mx.out.mono ?_
      rintro e w2 ⟨rfl, hb'⟩
      have hb2 := hb1.trans (hb'.mono hb1.size)
      clear Mx hb' hb1 T1
      have T2 := hidI (hT.below hb2)
      have Mx := hidI (matchS_any s n K true w2 hs2.out mA.out)
      go_wp2_with fail
      refine Mx.out.mono ?_
      rintro e w' ⟨rfl, hw⟩
      replace hw := hw.symm
      subst hw
      clear Mx
      have Mx := hidI (innerI_any s n ⟨#[]⟩ false w2 hs2.out T2.out iA.out)
      go_wp2_with fail
      refine Mx.out.mono ?_
      rintro e w3 ⟨rfl, hb'⟩
      have hb3 := hb2.trans (hb'.mono hb2.size)
      clear Mx hb' hb2 T2
      have T3 := hidI (hT.below hb3)
      have Mx := hidI (innerS_any s n ⟨#[]⟩ false w3 hs2.out iA.out)
      go_wp2_with fail
      refine Mx.out.mono ?_
      rintro e w' ⟨rfl, hw⟩
      replace hw := hw.symm
      subst hw
      clear Mx
      have Mx := hidI (d1.out w3 T3.out)
      go_wp2_with fail
      refine Mx.out.mono ?_
      rintro e w4 ⟨rfl, hb'⟩
      have hb4 := hb3.trans (hb'.mono hb3.size)
      clear Mx hb' hb3 T3
      have T4 := hidI (hT.below hb4)
      have Mx := hidI (d2.out w4)
      go_wp2_with fail
      refine Mx.out.mono ?_
      rintro e w' ⟨rfl, hw⟩
      replace hw := hw.symm
      subst hw
      clear Mx
      have Mx := hidI (matchI_any s K n true w4 hs2.out T4.out mB.out)
      go_wp2_with fail
      refine Mx.out.mono ?_
      rintro e w5 ⟨rfl, hb'⟩
      have hb5 := hb4.trans (hb'.mono hb4.size)
      clear Mx hb' hb4 T4
      have T5 := hidI (hT.below hb5)
      have Mx := hidI (dA.out w5 T5.out)
      go_wp2_with fail
      refine Mx.out.mono ?_
      rintro e w6 ⟨rfl, hb'⟩
      have hb6 := hb5.trans (hb'.mono hb5.size)
      clear Mx hb' hb5 T5
      have T6 := hidI (hT.below hb6)
      have Mx := hidI (dB.out w6 T6.out)
      go_wp2_with fail
      refine Mx.out.mono ?_
      rintro e w7 ⟨rfl, hb'⟩
      have hb7 := hb6.trans (hb'.mono hb6.size)
      clear Mx hb' hb6 T6
      have T7 := hidI (hT.below hb7)
      go_wp2
      all_goals first
        | (go_ret; exact ⟨rfl, hb7⟩)
        | (exfalso; simp_all)
  · go_enter Tryd.func3, Tryd.ntmps3
    go_wp2
    go_ret
    exact ⟨rfl, Below.refl _ _⟩
end Go.Proofs.YtbmnciejaknonaaDoor
