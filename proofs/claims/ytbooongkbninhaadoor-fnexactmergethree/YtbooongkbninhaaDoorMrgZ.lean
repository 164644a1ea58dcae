/- What must hold, or the merge gives up: the contracts of need, needed and of the calls that catch. The model's TransformOps, of normal changes. Three versions made one: the program's MergeThree and the model's. Three versions made one: the model's MergeThree. -/
import Derived.Test.YtbooongkbninhaaDoorOpSA
import Derived.Recover
import Derived.Tactics2
import Derived.Test.YtbooongkbninhaaDoorMrg5
import Derived.Test.YtbooongkbninhaaDoorMrg6
import Derived.Test.YtbooongkbninhaaDoorInv1
import Derived.Test.YtbooongkbninhaaDoorDifM
import Derived.Test.YtbooongkbninhaaDoorFootM
import Derived.Test.YtbooongkbninhaaDoorOpW9M
namespace Go.Proofs.YtbooongkbninhaaDoor
open Go.RowKit
open Doc1

/-- What is thrown. -/
def noM : Value := .iface 153 (.agg #[])
def gaveUp (e : Ending) : Prop := e = .panicked [{ v := noM, recovered := false }]

set_option maxRecDepth 100000 in
theorem need_yes (w : World) : Calls Tryd.prog 71 #[.bool true] w fun e w' => e = .returned (.tuple #[]) ∧ w' = w := by
  go_enter Tryd.func71, Tryd.ntmps71
  go_wp2
  go_end0
  exact ⟨rfl, rfl⟩

set_option maxRecDepth 100000 in
theorem need_no (w : World) : Calls Tryd.prog 71 #[.bool false] w fun e w' => gaveUp e ∧ w' = w := by
  go_enter Tryd.func71, Tryd.ntmps71
  go_wp2
  exact ⟨rfl, rfl, rfl⟩

set_option maxRecDepth 100000 in
theorem needed_parts_yes (v : Value) (w : World) : Calls Tryd.prog 66 #[v, .bool true] w fun e w' => e = .returned v ∧ w' = w := by
  have N := hide (need_yes w)
  go_enter Tryd.func66, Tryd.ntmps66
  go_wp2_with fail
  refine N.out.mono ?_
  rintro e w' ⟨rfl, rfl⟩
  go_wp2
  go_ret
  exact ⟨rfl, rfl⟩

set_option maxRecDepth 100000 in
theorem needed_parts_no (v : Value) (w : World) : Calls Tryd.prog 66 #[v, .bool false] w fun e w' => gaveUp e ∧ w' = w := by
  have N := hide (need_no w)
  go_enter Tryd.func66, Tryd.ntmps66
  go_wp2_with fail
  refine N.out.mono ?_
  rintro e w' ⟨he, rfl⟩
  cases he
  exact ⟨rfl, rfl, rfl⟩

set_option maxRecDepth 100000 in
theorem needed_int_yes (v : Value) (w : World) : Calls Tryd.prog 68 #[v, .bool true] w fun e w' => e = .returned v ∧ w' = w := by
  have N := hide (need_yes w)
  go_enter Tryd.func68, Tryd.ntmps68
  go_wp2_with fail
  refine N.out.mono ?_
  rintro e w' ⟨rfl, rfl⟩
  go_wp2
  go_ret
  exact ⟨rfl, rfl⟩

set_option maxRecDepth 100000 in
theorem needed_int_no (v : Value) (w : World) : Calls Tryd.prog 68 #[v, .bool false] w fun e w' => gaveUp e ∧ w' = w := by
  have N := hide (need_no w)
  go_enter Tryd.func68, Tryd.ntmps68
  go_wp2_with fail
  refine N.out.mono ?_
  rintro e w' ⟨he, rfl⟩
  cases he
  exact ⟨rfl, rfl, rfl⟩

set_option maxRecDepth 100000 in
theorem needed_str_yes (v : Value) (w : World) : Calls Tryd.prog 72 #[v, .bool true] w fun e w' => e = .returned v ∧ w' = w := by
  have N := hide (need_yes w)
  go_enter Tryd.func72, Tryd.ntmps72
  go_wp2_with fail
  refine N.out.mono ?_
  rintro e w' ⟨rfl, rfl⟩
  go_wp2
  go_ret
  exact ⟨rfl, rfl⟩

set_option maxRecDepth 100000 in
theorem needed_str_no (v : Value) (w : World) : Calls Tryd.prog 72 #[v, .bool false] w fun e w' => gaveUp e ∧ w' = w := by
  have N := hide (need_no w)
  go_enter Tryd.func72, Tryd.ntmps72
  go_wp2_with fail
  refine N.out.mono ?_
  rintro e w' ⟨he, rfl⟩
  cases he
  exact ⟨rfl, rfl, rfl⟩

set_option maxRecDepth 100000 in
theorem catch_no (older : List PanicEntry) (w : World) : CallsD Tryd.prog 43 #[] (.panicking ({ v := noM, recovered := false } :: older)) w fun e u' w' =>
    e = .returned (.tuple #[]) ∧ u' = .panicking ({ v := noM, recovered := true } :: older) ∧ w' = w := by
  unfold noM
  refine callsD_of_wpS Tryd.func43 rfl fun c₀ cs hu => ?_
  apply wpS_region
  simp [wpOpsS, go_sem, recoverD, hu, Tryd.ntmps43, bodyPostS, results, Tryd.results43]

set_option maxRecDepth 100000 in
theorem catch_yes (w : World) : CallsD Tryd.prog 43 #[] .returning w fun e u' w' => e = .returned (.tuple #[]) ∧ u' = .returning ∧ w' = w := by
  refine callsD_of_wpS Tryd.func43 rfl fun c₀ cs hu => ?_
  apply wpS_region
  simp [wpOpsS, go_sem, recoverD, hu, Tryd.ntmps43, bodyPostS, results, Tryd.results43]
  cases c₀
  simp_all
end Go.Proofs.YtbooongkbninhaaDoor

namespace Go.Proofs.YtbooongkbninhaaDoor
open Go.RowKit
open Doc1

theorem apl_good {l : List Pt} {s : ByteArray} (h : (aplO l s).2 = true) : good (aplO l s).1.data.toList = true := by
  have u := (undo h).1
  exact (apl_yes (l := invO l) (s := (aplO l s).1) (by rw [u])).2.1
theorem swE_same {a b : List St} (h : SwE a b) (G : Gs) : gath G a = gath G b := by
  induction h with
  | refl => rfl
  | swap a b hp hd => exact eqv_at hp hd _ _ G
  | trans _ _ i1 i2 => exact i1.trans i2
theorem norm_again {L X : List Pt} (h : ∀ p ∈ L, pk p ≠ 0) (e : X = normL L) (hg : goodO X = true) : normL X = X := by
  subst e
  rw [norm_gath _ (goodO_pk hg), swE_same (norm_sw h), ← norm_gath _ h]
/-- What is gathered of the pairs is what the model tells. -/
theorem tr_model {X Y PA PB : List Pt} (g1 : goodO X = true) (g2 : goodO Y = true) (n1 : normL X = X) (n2 : normL Y = Y) (ht : tkL X = tkL Y) (hA : ∀ p ∈ PA, gqs p) (hB : ∀ p ∈ PB, gqs p)
    (e1 : trA (prR (stL (normL X)) (stL (normL Y))) = stL PA) (e2 : trB (prR (stL (normL X)) (stL (normL Y))) = stL PB) :
    normL PA = (gath g0 (trA (prF (stL X) (stL Y)))).out ∧ normL PB = (gath g0 (trB (prF (stL X) (stL Y)))).out := by
  have hct : ctk (stL X) = ctk (stL Y) := by
    have h1 := (stL_sums X (goodO_pk g1)).1
    have h2 := (stL_sums Y (goodO_pk g2)).1
    omega
  rw [n1, n2, ← prF_eq hct] at e1 e2
  rw [e1, e2, norm_gath PA (fun p hp => gqs_pk (hA p hp)), norm_gath PB (fun p hp => gqs_pk (hB p hp))]
  exact ⟨rfl, rfl⟩
theorem sam_good {X Y : List Pt} (hs : samA X Y = true) : goodO X = true ∧ goodO Y = true ∧ tkL X = tkL Y := by
  unfold samA samK at hs
  simp only [Bool.and_eq_true, decide_eq_true_eq] at hs
  exact ⟨hs.1.1, hs.1.2.1, hs.1.2.2⟩

set_option maxRecDepth 100000 in
set_option maxHeartbeats 4000000 in
theorem transformS_bad {w : World} {aa ab : Option Addr} {ga ca gb cb : Nat} {la lb : List Pt} (ha : Pin w aa ga ca la) (hb : Pin w ab gb cb lb) (g1 : goodO la = true) (g2 : goodO lb = true) (hs : samA la lb = false) :
    Calls Tryd.prog 63 #[.slice aa la.length ca, .slice ab lb.length cb] w fun e w' => e = .returned (.tuple #[.slice none 0 0, .slice none 0 0, .bool false]) ∧ Below w.heap.size w w' := by
  have GA := goodOpS ha
  have GB := hide (fun w1 (h : Below w.heap.size w w1) => goodOpS (hb.later h))
  have T := hide (fun w1 (h : Below w.heap.size w w1) => l4Transform_no (ha.later h) (hb.later h) g1 g2 hs)
  rw [g1] at GA
  rw [g2] at GB
  replace GA := hide GA
  clear ha hb g1 g2 hs
  go_enter Tryd.func63, Tryd.ntmps63
  go_wp2_with fail
  refine GA.out.mono ?_
  rintro e w1 ⟨rfl, hb1⟩
  go_wp2_with fail
  refine (GB.out _ hb1).mono ?_
  rintro e w2 ⟨rfl, hb2⟩
  replace hb2 := hb1.trans (hb2.mono hb1.size)
  go_wp2_with fail
  refine (T.out _ hb2).mono ?_
  rintro e w3 ⟨rfl, hb3⟩
  replace hb3 := hb2.trans (hb3.mono hb2.size)
  clear GA GB T hb1 hb2
  go_wp2
  go_ret3
  exact ⟨rfl, hb3⟩

set_option maxRecDepth 100000 in
set_option maxHeartbeats 4000000 in
theorem transformS {w : World} {aa ab : Option Addr} {ga ca gb cb : Nat} {la lb : List Pt} (ha : Pin w aa ga ca la) (hb : Pin w ab gb cb lb) (n1 : normL la = la) (n2 : normL lb = lb) (hs : samA la lb = true) :
    Calls Tryd.prog 63 #[.slice aa la.length ca, .slice ab lb.length cb] w fun e w' => ∃ va vb, e = .returned (.tuple #[va, vb, .bool (trK la lb)]) ∧
      POwn w' w.heap.size va (if trK la lb then (gath g0 (trA (prF (stL la) (stL lb)))).out else []) ∧ POwn w' w.heap.size vb (if trK la lb then (gath g0 (trB (prF (stL la) (stL lb)))).out else []) ∧ Below w.heap.size w w' := by
  obtain ⟨g1, g2, ht⟩ := sam_good hs
  have GA := goodOpS ha
  have GB := hide (fun w1 (h : Below w.heap.size w w1) => goodOpS (hb.later h))
  have T := hide (fun w1 (h : Below w.heap.size w w1) => l4Transform_any (ha.later h) (hb.later h) g1 g2 hs)
  have M := hide (fun PA PB => tr_model (PA := PA) (PB := PB) g1 g2 n1 n2 ht)
  have ltw : 0 < w.heap.size := Nat.lt_of_le_of_lt (Nat.zero_le _) ha.lt
  rw [g1] at GA
  rw [g2] at GB
  replace GA := hide GA
  unfold trK
  generalize (gath g0 (trA (prF (stL la) (stL lb)))).out = ZA at *
  generalize (gath g0 (trB (prF (stL la) (stL lb)))).out = ZB at *
  clear ha hb g1 g2 hs n1 n2 ht
  generalize stL (normL la) = X at *
  generalize stL (normL lb) = Y at *
  unfold TPost at T
  obtain ⟨xA, hxA⟩ : ∃ x, goodO ZA = x := ⟨_, rfl⟩
  obtain ⟨xB, hxB⟩ : ∃ x, goodO ZB = x := ⟨_, rfl⟩
  rw [hxA, hxB]
  have HX := hide (And.intro hxA hxB)
  clear hxA hxB
  go_enter Tryd.func63, Tryd.ntmps63
  go_wp2_with fail
  refine GA.out.mono ?_
  rintro e w1 ⟨rfl, hb1⟩
  go_wp2_with fail
  refine (GB.out _ hb1).mono ?_
  rintro e w2 ⟨rfl, hb2⟩
  replace hb2 := hb1.trans (hb2.mono hb1.size)
  go_wp2_with fail
  refine (T.out _ hb2).mono ?_
  rintro e w3 ⟨va, vb, PA, PB, rfl, e1, e2, gA, gB, lA, lB, oa, ob, hb3⟩
  obtain ⟨m1, m2⟩ := M.out PA PB gA gB e1 e2
  have hsz := hb2.size
  replace oa := POwn.mono oa hsz
  replace ob := POwn.mono ob hsz
  replace hb3 := hb2.trans (hb3.mono hb2.size)
  obtain ⟨sA1, sA2⟩ := normP_small gA (by omega)
  obtain ⟨sB1, sB2⟩ := normP_small gB (by omega)
  rw [m1] at oa sA1 sA2
  rw [m2] at ob sB1 sB2
  have lt3 : 0 < w3.heap.size := by have := hb3.size; omega
  obtain ⟨aA, hA, cA, rfl, pA⟩ := own_pin0 oa lt3 sA1 sA2
  obtain ⟨aB, hB, cB, rfl, pB⟩ := own_pin0 ob lt3 sB1 sB2
  have QA := goodOpS pA
  have QB := hide (fun w4 (h : Below w3.heap.size w3 w4) => goodOpS (pB.later h))
  rw [HX.out.1] at QA
  rw [HX.out.2] at QB
  replace QA := hide QA
  have OO := hide (And.intro oa ob)
  clear GA GB T hb1 hb2 oa ob sA1 sA2 sB1 sB2 e1 e2 gA gB m1 m2 M pA pB
  cases xA with
  | false =>
    clear OO QB
    go_wp2_with fail
    refine QA.out.mono ?_
    rintro e w4 ⟨rfl, hb4⟩
    replace hb4 := hb3.trans (hb4.mono hb3.size)
    go_wp2
    go_ret3
    exact ⟨_, _, rfl, World.ownsRow_nil _ _ _ _, World.ownsRow_nil _ _ _ _, hb4⟩
  | true =>
    go_wp2_with fail
    refine QA.out.mono ?_
    rintro e w4 ⟨rfl, hb4⟩
    cases xB with
    | false =>
      clear OO
      go_wp2_with fail
      refine (QB.out _ hb4).mono ?_
      rintro e w5 ⟨rfl, hb5⟩
      replace hb5 := hb3.trans ((hb4.trans (hb5.mono hb4.size)).mono hb3.size)
      go_wp2
      go_ret3
      exact ⟨_, _, rfl, World.ownsRow_nil _ _ _ _, World.ownsRow_nil _ _ _ _, hb5⟩
    | true =>
      go_wp2_with fail
      refine (QB.out _ hb4).mono ?_
      rintro e w5 ⟨rfl, hb5⟩
      replace hb5 := hb4.trans (hb5.mono hb4.size)
      go_wp2
      go_ret3
      exact ⟨_, _, rfl, own_below OO.out.1 hb5, own_below OO.out.2 hb5, hb3.trans (hb5.mono hb3.size)⟩
end Go.Proofs.YtbooongkbninhaaDoor

set_option linter.unusedVariables false
namespace Go.Proofs.YtbooongkbninhaaDoor
open Go.RowKit
open Doc1

theorem df_props {a b : List UInt8} (h : dfB a b = true) : (goodO (dfT a b) = true ∧ normL (dfT a b) = dfT a b) ∧ good a = true ∧ good b = true := by
  unfold dfB at h
  simp only [Bool.and_eq_true] at h
  obtain ⟨⟨h1, h2⟩, h3⟩ := h
  have e : dfT a b = (gath g0 (dst a b)).out := by
    unfold dfT dfO
    rw [h1, h2, h3]
    rfl
  have hd := dst_good h1 h2
  have hg : goodO (dfT a b) = true := by rw [e]; exact h3
  refine ⟨⟨hg, ?_⟩, h1, h2⟩
  refine norm_again (L := (dst a b).map stP) (fun p hp => ?_) (by rw [e, norm_P _ hd]) hg
  obtain ⟨x, hx, rfl⟩ := List.mem_map.1 hp
  exact pk_P (hd x hx).1
theorem good_pin {w : World} {B : Nat} {v : Value} {l : List Pt} (h : POwn w B v l) (h0 : 0 < w.heap.size) (hg : goodO l = true) : ∃ aw g cap, v = .slice aw l.length cap ∧ Pin w aw g cap l := by
  obtain ⟨h60, hp, -, -⟩ := goodO_parts hg
  refine own_pin0 h h0 (fun p c => ?_) (by omega)
  have := pk_Bd (hp p c)
  exact ⟨by have := this.2.1; omega, by have := this.2.2; omega⟩
/-- What the merge is made of. -/
def mgX (c a : ByteArray) : List Pt := dfT c.data.toList a.data.toList
def mgZ (X Y : List Pt) : List Pt := (gath g0 (trB (prF (stL X) (stL Y)))).out
def mgB (c a b : ByteArray) : Bool := dfB c.data.toList a.data.toList && dfB c.data.toList b.data.toList
def mgC (X Y : List Pt) : Bool := samA X Y && trK X Y
def mgK (c a b : ByteArray) : Bool := mgB c a b && (mgC (mgX c a) (mgX c b) && (aplO (mgZ (mgX c a) (mgX c b)) a).2)
def mgT (c a b : ByteArray) : ByteArray := if mgK c a b then (aplO (mgZ (mgX c a) (mgX c b)) a).1 else ⟨#[]⟩
def mgN (c a b : ByteArray) : Int := if mgK c a b then (clsN (mgX c a) (mgX c b) : Int) else 0

set_option maxRecDepth 100000 in
set_option maxHeartbeats 4000000 in
theorem mergeI (c a b : ByteArray) (w : World) (hT : Tab w) (hc : c.size ≤ 1048576) (ha : a.size ≤ 1048576) (hb : b.size ≤ 1048576) :
    Calls Tryd.prog 44 #[.string c, .string a, .string b] w fun e w' => (if mgK c a b = true then e = .returned (.tuple #[.string (mgT c a b), .int .i64 (mgN c a b)]) else gaveUp e) ∧ Below w.heap.size w w' := by
  have D1 := diffI_any c a w hc ha hT
  have D2 := fun w1 (h : Below w.heap.size w w1) => diffI_any c b w1 hc hb (hT.below h)
  have PX : dfB c.data.toList a.data.toList = true → goodO (mgX c a) = true := fun h => (df_props h).1.1
  have PY : dfB c.data.toList b.data.toList = true → goodO (mgX c b) = true := fun h => (df_props h).1.1
  unfold mgT mgN mgK mgB
  change Calls _ _ _ _ (fun e w' => ∃ v, e = .returned (.tuple #[v, .bool (dfB c.data.toList a.data.toList)]) ∧ POwn w' w.heap.size v (mgX c a) ∧ Below w.heap.size w w') at D1
  have D2' : ∀ w1 (h : Below w.heap.size w w1), Calls Tryd.prog 67 #[.string c, .string b] w1 fun e w' => ∃ v, e = .returned (.tuple #[v, .bool (dfB c.data.toList b.data.toList)]) ∧ POwn w' w1.heap.size v (mgX c b) ∧ Below w1.heap.size w1 w' := D2
  clear D2
  generalize mgX c a = X at *
  generalize mgX c b = Y at *
  generalize dfB c.data.toList a.data.toList = d1 at *
  generalize dfB c.data.toList b.data.toList = d2 at *
  replace D1 := hide D1
  have D2 := hide D2'
  have HT := hide hT
  have AP := hide (fun (w1 : World) (aw : Option Addr) (g cap : Nat) (h : Pin w1 aw g cap (mgZ X Y)) (hb1 : Below w.heap.size w w1) => applyI a h (hT.below hb1) ha)
  have lt0 := hT.lt
  clear D2' hT
  cases d1 with
  | false =>
    clear D2 PX PY AP
    go_enter Tryd.func44, Tryd.ntmps44
    go_wp2_with fail
    refine D1.out.mono ?_
    rintro e w1 ⟨v, rfl, -, hb1⟩
    go_wp2_with fail
    refine (needed_parts_no _ _).mono ?_
    rintro e w2 ⟨he, rfl⟩
    cases he
    exact ⟨rfl, rfl, hb1⟩
  | true =>
    have GX := PX rfl
    clear PX
    cases d2 with
    | false =>
      clear PY AP
      go_enter Tryd.func44, Tryd.ntmps44
      go_wp2_with fail
      refine D1.out.mono ?_
      rintro e w1 ⟨v, rfl, -, hb1⟩
      go_wp2_with fail
      refine (needed_parts_yes _ _).mono ?_
      rintro e w2 ⟨rfl, hw⟩
      replace hw := hw.symm; subst hw
      go_wp2_with fail
      refine (D2.out _ hb1).mono ?_
      rintro e w3 ⟨v3, rfl, -, hb3⟩
      replace hb3 := hb1.trans (hb3.mono hb1.size)
      go_wp2_with fail
      refine (needed_parts_no _ _).mono ?_
      rintro e w2 ⟨he, rfl⟩
      cases he
      exact ⟨rfl, rfl, hb3⟩
    | true =>
      have GY := PY rfl
      clear PY
      have CB := hide (fun (w1 : World) (aa ab : Option Addr) (ga ca gb cb : Nat) (h1 : Pin w1 aa ga ca X) (h2 : Pin w1 ab gb cb Y) (h : Below w.heap.size w w1) (hs : samA X Y = false) => clashesI_bad h1 h2 (HT.out.below h) hs)
      have CG := hide (fun (w1 : World) (aa ab : Option Addr) (ga ca gb cb : Nat) (h1 : Pin w1 aa ga ca X) (h2 : Pin w1 ab gb cb Y) (h : Below w.heap.size w w1) (hs : samA X Y = true) => clashesI h1 h2 (HT.out.below h) hs)
      have TG := hide (fun (w1 : World) (aa ab : Option Addr) (ga ca gb cb : Nat) (h1 : Pin w1 aa ga ca X) (h2 : Pin w1 ab gb cb Y) (h : Below w.heap.size w w1) (hs : samA X Y = true) => transformI h1 h2 (HT.out.below h) hs)
      have GZ : trK X Y = true → goodO (mgZ X Y) = true := fun h => by unfold trK at h; simp only [Bool.and_eq_true] at h; exact h.2
      unfold mgC
      change Hid (∀ (w1 : World) (aa ab : Option Addr) (ga ca gb cb : Nat), Pin w1 aa ga ca X → Pin w1 ab gb cb Y → Below w.heap.size w w1 → samA X Y = true → Calls _ _ _ w1 (fun e w' => ∃ va vb, e = .returned (.tuple #[va, vb, .bool (trK X Y)]) ∧ POwn w' w1.heap.size va (if trK X Y then (gath g0 (trA (prF (stL X) (stL Y)))).out else []) ∧ POwn w' w1.heap.size vb (if trK X Y then mgZ X Y else []) ∧ Below w1.heap.size w1 w')) at TG
      generalize (gath g0 (trA (prF (stL X) (stL Y)))).out = ZA at *
      generalize mgZ X Y = Z at *
      generalize clsN X Y = n at *
      obtain ⟨s, hs⟩ : ∃ s, samA X Y = s := ⟨_, rfl⟩
      obtain ⟨t, ht⟩ : ∃ t, trK X Y = t := ⟨_, rfl⟩
      rw [hs] at CB CG TG
      rw [ht] at TG GZ
      rw [hs, ht]
      clear hs ht
      generalize aplO Z a = R at *
      obtain ⟨r1, r2⟩ := R
      simp only at AP ⊢
      cases s with
      | false =>
        clear CG TG AP GZ
        go_enter Tryd.func44, Tryd.ntmps44
        go_wp2_with fail
        refine D1.out.mono ?_
        rintro e w1 ⟨vX, rfl, oX, hb1⟩
        have hz1 := hb1.size
        go_wp2_with fail
        refine (needed_parts_yes _ _).mono ?_
        rintro e w2 ⟨rfl, hw⟩
        replace hw := hw.symm; subst hw
        go_wp2_with fail
        refine (D2.out _ hb1).mono ?_
        rintro e w3 ⟨vY, rfl, oY, hb3⟩
        replace oX := own_below oX hb3
        have hz3 := hb3.size
        replace hb3 := hb1.trans (hb3.mono hb1.size)
        clear hb1 D1 D2
        obtain ⟨aX, gX, cX, rfl, pX⟩ := good_pin oX (by omega) GX
        obtain ⟨aY, gY, cY, rfl, pY⟩ := good_pin oY (by omega) GY
        have C := hide (CB.out _ _ _ _ _ _ _ pX pY hb3 (by simp))
        clear oX oY pX pY CB
        go_wp2_with fail
        refine (needed_parts_yes _ _).mono ?_
        rintro e w2 ⟨rfl, hw⟩
        replace hw := hw.symm; subst hw
        go_wp2_with fail
        refine C.out.mono ?_
        rintro e w4 ⟨rfl, hb4⟩
        replace hb4 := hb3.trans (hb4.mono hb3.size)
        go_wp2_with fail
        refine (needed_int_no _ _).mono ?_
        rintro e w2 ⟨he, rfl⟩
        cases he
        exact ⟨rfl, rfl, hb4⟩
      | true =>
        clear CB
        go_enter Tryd.func44, Tryd.ntmps44
        go_wp2_with fail
        refine D1.out.mono ?_
        rintro e w1 ⟨vX, rfl, oX, hb1⟩
        have hz1 := hb1.size
        go_wp2_with fail
        refine (needed_parts_yes _ _).mono ?_
        rintro e w2 ⟨rfl, hw⟩
        replace hw := hw.symm; subst hw
        go_wp2_with fail
        refine (D2.out _ hb1).mono ?_
        rintro e w3 ⟨vY, rfl, oY, hb3⟩
        replace oX := own_below oX hb3
        have hz3 := hb3.size
        replace hb3 := hb1.trans (hb3.mono hb1.size)
        clear hb1 D1 D2
        obtain ⟨aX, gX, cX, rfl, pX⟩ := good_pin oX (by omega) GX
        obtain ⟨aY, gY, cY, rfl, pY⟩ := good_pin oY (by omega) GY
        have C := hide (CG.out _ _ _ _ _ _ _ pX pY hb3 (by simp))
        have PP := hide (And.intro pX pY)
        clear oX oY pX pY CG
        go_wp2_with fail
        refine (needed_parts_yes _ _).mono ?_
        rintro e w2 ⟨rfl, hw⟩
        replace hw := hw.symm; subst hw
        go_wp2_with fail
        refine C.out.mono ?_
        rintro e w4 ⟨rfl, hb4⟩
        have T := hide (TG.out _ _ _ _ _ _ _ (PP.out.1.later hb4) (PP.out.2.later hb4) (hb3.trans (hb4.mono hb3.size)) (by simp))
        replace hb4 := hb3.trans (hb4.mono hb3.size)
        clear C PP TG
        go_wp2_with fail
        refine (needed_int_yes _ _).mono ?_
        rintro e w2 ⟨rfl, hw⟩
        replace hw := hw.symm; subst hw
        go_wp2_with fail
        refine T.out.mono ?_
        rintro e w5 ⟨vA, vB, rfl, oA, oB, hb5⟩
        replace hb5 := hb4.trans (hb5.mono hb4.size)
        have hz5 := hb5.size
        clear T
        cases t with
        | false =>
          obtain ⟨a1, c1, rfl, -, -⟩ := own_shp oA
          obtain ⟨a2, c2, rfl, -, -⟩ := own_shp oB
          clear oA oB AP
          go_wp2_with fail
          refine (need_no _).mono ?_
          rintro e w2 ⟨he, rfl⟩
          cases he
          exact ⟨rfl, rfl, hb5⟩
        | true =>
          obtain ⟨a1, c1, rfl, -, -⟩ := own_shp oA
          obtain ⟨a2, g2, c2, rfl, p2⟩ := good_pin (l := Z) oB (by omega) (GZ rfl)
          have A := hide (AP.out _ _ _ _ p2 hb5)
          clear oA oB AP p2
          go_wp2_with fail
          refine (need_yes _).mono ?_
          rintro e w2 ⟨rfl, hw⟩
          replace hw := hw.symm; subst hw
          go_wp2_with fail
          refine A.out.mono ?_
          rintro e w6 ⟨rfl, hb6⟩
          replace hb6 := hb5.trans (hb6.mono hb5.size)
          cases r2 with
          | false =>
            go_wp2_with fail
            refine (needed_str_no _ _).mono ?_
            rintro e w2 ⟨he, rfl⟩
            cases he
            exact ⟨rfl, rfl, hb6⟩
          | true =>
            go_wp2_with fail
            refine (needed_str_yes _ _).mono ?_
            rintro e w2 ⟨rfl, hw⟩
            replace hw := hw.symm; subst hw
            go_wp2
            go_ret2
            exact ⟨rfl, hb6⟩

set_option maxRecDepth 100000 in
set_option maxHeartbeats 2000000 in
theorem mergeThreeI (c a b : ByteArray) (w : World) (hT : Tab w) (hc : c.size ≤ 1048576) (ha : a.size ≤ 1048576) (hb : b.size ≤ 1048576) :
    Calls Tryd.prog 19 #[.string c, .string a, .string b] w fun e w' => e = .returned (.tuple #[.string (mgT c a b), .int .i64 (mgN c a b), .bool (mgK c a b)]) ∧ Below w.heap.size w w' := by
  have M := mergeI c a b w hT hc ha hb
  have Z : mgK c a b = false → mgT c a b = ⟨#[]⟩ ∧ mgN c a b = 0 := fun h => by unfold mgT mgN; rw [h]; exact ⟨rfl, rfl⟩
  cases hk : mgK c a b with
  | true =>
    rw [hk] at M
    simp only [if_true] at M
    replace M := hide M
    clear Z hk hT
    generalize mgT c a b = t at *
    generalize mgN c a b = n at *
    go_enter_defers Tryd.func19, Tryd.ntmps19
    go_wp2_with fail
    refine M.out.mono ?_
    rintro e w1 ⟨rfl, hb1⟩
    go_wp2
    refine leaves_cons (f := 43) (args := #[]) (by simp) (by simp [go_sem]) ?_
    refine (catch_yes _).mono ?_
    rintro e u' w'' ⟨rfl, rfl, rfl⟩
    simp [Leaves, settle, results, Tryd.results19, go_sem]
    exact hb1
  | false =>
    rw [hk] at M
    simp only [Bool.false_eq_true, if_false] at M
    obtain ⟨z1, z2⟩ := Z hk
    rw [z1, z2]
    replace M := hide M
    clear z1 z2 hk hT Z
    go_enter_defers Tryd.func19, Tryd.ntmps19
    go_wp2_with fail
    refine M.out.mono ?_
    rintro e w1 ⟨he, hb1⟩
    cases he
    refine leaves_cons (f := 43) (args := #[]) (by simp) (by simp [go_sem]) ?_
    refine (catch_no [] _).mono ?_
    rintro e u' w'' ⟨rfl, rfl, rfl⟩
    simp [Leaves, settle, results, Tryd.results19, go_sem]
    exact hb1
end Go.Proofs.YtbooongkbninhaaDoor

set_option linter.unusedVariables false
namespace Go.Proofs.YtbooongkbninhaaDoor
open Go.RowKit
open Doc1

theorem pin_nil {w : World} (h : 0 < w.heap.size) : Pin w none 0 0 [] := ⟨⟨Nat.le_refl _, by unfold maxLen; omega⟩, fun i hi => by simp at hi, by simp, fun j u hu => by simp [encP] at hu, h, fun c => absurd rfl c⟩
/-- Applying, where the change and the text are good. -/
theorem apl_ap {l : List Pt} {s : ByteArray} (h1 : goodO l = true) (h2 : good s.data.toList = true) : (aplO l s).2 = (apO l s).2 ∧ ((apO l s).2 = true → (aplO l s).1 = (apO l s).1 ∧ good (apO l s).1.data.toList = true) := by
  have h3 := @apl_good l s
  unfold aplO at h3 ⊢
  cases h : (apO l s).2 with
  | false => rw [if_neg (by simp)]; exact ⟨rfl, fun c => by cases c⟩
  | true =>
    rw [h, if_pos ⟨h1, h2, rfl⟩] at h3
    rw [if_pos ⟨h1, h2, rfl⟩]
    exact ⟨rfl, fun _ => ⟨rfl, h3 rfl⟩⟩

set_option maxRecDepth 100000 in
set_option maxHeartbeats 4000000 in
theorem l10Merge_any (c a b : ByteArray) (w : World) (h0 : 0 < w.heap.size) (hc : c.size ≤ 1048576) (ha : a.size ≤ 1048576) (hb : b.size ≤ 1048576) :
    Calls Tryd.prog 42 #[.string c, .string a, .string b] w fun e w' => e = .returned (.tuple #[.string (mgT c a b), .int .i64 (mgN c a b), .bool (mgK c a b)]) ∧ Below w.heap.size w w' := by
  have D1 := diffS_any c a w hc ha
  have D2 := fun w1 => diffS_any c b w1 hc hb
  have PX : dfB c.data.toList a.data.toList = true → (goodO (mgX c a) = true ∧ normL (mgX c a) = mgX c a) ∧ good a.data.toList = true := fun h => ⟨(df_props h).1, (df_props h).2.2⟩
  have PY : dfB c.data.toList b.data.toList = true → goodO (mgX c b) = true ∧ normL (mgX c b) = mgX c b := fun h => (df_props h).1
  unfold mgT mgN mgK mgB
  change Calls _ _ _ _ (fun e w' => ∃ v, e = .returned (.tuple #[v, .bool (dfB c.data.toList a.data.toList)]) ∧ POwn w' w.heap.size v (mgX c a) ∧ Below w.heap.size w w') at D1
  have D2' : ∀ w1 : World, Calls Tryd.prog 62 #[.string c, .string b] w1 fun e w' => ∃ v, e = .returned (.tuple #[v, .bool (dfB c.data.toList b.data.toList)]) ∧ POwn w' w1.heap.size v (mgX c b) ∧ Below w1.heap.size w1 w' := D2
  clear D2
  generalize mgX c a = X at *
  generalize mgX c b = Y at *
  generalize dfB c.data.toList a.data.toList = d1 at *
  generalize dfB c.data.toList b.data.toList = d2 at *
  replace D1 := hide D1
  have D2 := hide D2'
  have lX : d1 = false → True := fun _ => trivial
  clear D2' lX
  have AN := hide (fun (w1 : World) (h : 0 < w1.heap.size) => l3Apply_any a (pin_nil h) (by simp) (fun p hp => by cases hp) ha)
  generalize apO [] a = RN at *
  obtain ⟨n1, n2⟩ := RN
  simp only at AN
  cases d1 with
  | false =>
    clear PX PY AN
    go_enter Tryd.func42, Tryd.ntmps42
    go_wp2_with fail
    refine D1.out.mono ?_
    rintro e w1 ⟨vX, rfl, oX, hb1⟩
    obtain ⟨a1, c1, rfl, -, -⟩ := own_shp oX
    clear oX
    go_wp2_with fail
    refine (D2.out _).mono ?_
    rintro e w3 ⟨vY, rfl, oY, hb3⟩
    obtain ⟨a2, c2, rfl, -, -⟩ := own_shp oY
    clear oY
    replace hb3 := hb1.trans (hb3.mono hb1.size)
    go_wp2
    go_ret3
    exact ⟨rfl, hb3⟩
  | true =>
    obtain ⟨⟨GX, NX⟩, ga⟩ := PX rfl
    clear PX
    cases d2 with
    | false =>
      clear PY AN
      go_enter Tryd.func42, Tryd.ntmps42
      go_wp2_with fail
      refine D1.out.mono ?_
      rintro e w1 ⟨vX, rfl, oX, hb1⟩
      obtain ⟨a1, c1, rfl, -, -⟩ := own_shp oX
      clear oX
      go_wp2_with fail
      refine (D2.out _).mono ?_
      rintro e w3 ⟨vY, rfl, oY, hb3⟩
      obtain ⟨a2, c2, rfl, -, -⟩ := own_shp oY
      clear oY
      replace hb3 := hb1.trans (hb3.mono hb1.size)
      go_wp2
      go_ret3
      exact ⟨rfl, hb3⟩
    | true =>
      obtain ⟨GY, NY⟩ := PY rfl
      clear PY
      have CB := hide (fun (w1 : World) (aa ab : Option Addr) (ga ca gb cb : Nat) (h1 : Pin w1 aa ga ca X) (h2 : Pin w1 ab gb cb Y) (hs : samA X Y = false) => clashesS_bad h1 h2 hs)
      have CG := hide (fun (w1 : World) (aa ab : Option Addr) (ga ca gb cb : Nat) (h1 : Pin w1 aa ga ca X) (h2 : Pin w1 ab gb cb Y) (hs : samA X Y = true) => (cls_eq hs ▸ clashesS h1 h2 hs : Calls Tryd.prog 64 #[.slice aa X.length ca, .slice ab Y.length cb] w1 fun e w' => e = .returned (.tuple #[.int .i64 (clsN X Y : Int), .bool true]) ∧ Below w1.heap.size w1 w'))
      have TB := hide (fun (w1 : World) (aa ab : Option Addr) (ga ca gb cb : Nat) (h1 : Pin w1 aa ga ca X) (h2 : Pin w1 ab gb cb Y) (hs : samA X Y = false) => transformS_bad h1 h2 GX GY hs)
      have TG := hide (fun (w1 : World) (aa ab : Option Addr) (ga ca gb cb : Nat) (h1 : Pin w1 aa ga ca X) (h2 : Pin w1 ab gb cb Y) (hs : samA X Y = true) => transformS h1 h2 NX NY hs)
      have GZ : trK X Y = true → goodO (mgZ X Y) = true := fun h => by unfold trK at h; simp only [Bool.and_eq_true] at h; exact h.2
      have AP := hide (fun (w1 : World) (aw : Option Addr) (g cap : Nat) (h : Pin w1 aw g cap (mgZ X Y)) (hg : goodO (mgZ X Y) = true) => l3Apply_any a h (goodO_parts hg).1 (goodO_parts hg).2.1 ha)
      have AA := hide (fun (hg : goodO (mgZ X Y) = true) => apl_ap hg ga)
      unfold mgC
      change Hid (∀ (w1 : World) (aa ab : Option Addr) (ga ca gb cb : Nat), Pin w1 aa ga ca X → Pin w1 ab gb cb Y → samA X Y = true → Calls _ _ _ w1 (fun e w' => ∃ va vb, e = .returned (.tuple #[va, vb, .bool (trK X Y)]) ∧ POwn w' w1.heap.size va (if trK X Y then (gath g0 (trA (prF (stL X) (stL Y)))).out else []) ∧ POwn w' w1.heap.size vb (if trK X Y then mgZ X Y else []) ∧ Below w1.heap.size w1 w')) at TG
      generalize (gath g0 (trA (prF (stL X) (stL Y)))).out = ZA at *
      generalize mgZ X Y = Z at *
      generalize clsN X Y = n at *
      obtain ⟨s, hs⟩ : ∃ s, samA X Y = s := ⟨_, rfl⟩
      obtain ⟨t, ht⟩ : ∃ t, trK X Y = t := ⟨_, rfl⟩
      rw [hs] at CB CG TG TB
      rw [ht] at TG GZ
      rw [hs, ht]
      clear hs ht NX NY
      generalize aplO Z a = R at *
      generalize apO Z a = R' at *
      obtain ⟨r1, r2⟩ := R
      obtain ⟨p1, p2⟩ := R'
      simp only at AP AA ⊢
      cases s with
      | false =>
        clear CG TG AP GZ AA
        go_enter Tryd.func42, Tryd.ntmps42
        go_wp2_with fail
        refine D1.out.mono ?_
        rintro e w1 ⟨vX, rfl, oX, hb1⟩
        have hz1 := hb1.size
        obtain ⟨a1, g1, c1, rfl, pX⟩ := good_pin oX (by omega) GX
        clear oX
        go_wp2_with fail
        refine (D2.out _).mono ?_
        rintro e w3 ⟨vY, rfl, oY, hb3⟩
        have hz3 := hb3.size
        obtain ⟨a2, g2, c2, rfl, pY⟩ := good_pin oY (by omega) GY
        replace pX := pX.later hb3
        replace hb3 := hb1.trans (hb3.mono hb1.size)
        clear hb1 D1 D2 oY
        have T := hide (TB.out _ _ _ _ _ _ _ pX pY (by simp))
        have C := hide (fun (w1 : World) (h : Below w3.heap.size w3 w1) => CB.out _ _ _ _ _ _ _ (pX.later h) (pY.later h) (by simp))
        clear pX pY CB TB
        go_wp2_with fail
        refine T.out.mono ?_
        rintro e w4 ⟨rfl, hb4⟩
        go_wp2_with fail
        refine (C.out _ hb4).mono ?_
        rintro e w5 ⟨rfl, hb5⟩
        replace hb5 := hb3.trans ((hb4.trans (hb5.mono hb4.size)).mono hb3.size)
        have A := hide (AN.out w5 (by have := hb5.size; omega))
        clear AN T C hb4
        go_wp2_with fail
        refine A.out.mono ?_
        rintro e w6 ⟨rfl, hb6⟩
        replace hb6 := hb5.trans (hb6.mono hb5.size)
        go_wp2
        go_ret3
        exact ⟨rfl, hb6⟩
      | true =>
        clear CB TB
        go_enter Tryd.func42, Tryd.ntmps42
        go_wp2_with fail
        refine D1.out.mono ?_
        rintro e w1 ⟨vX, rfl, oX, hb1⟩
        have hz1 := hb1.size
        obtain ⟨a1, g1, c1, rfl, pX⟩ := good_pin oX (by omega) GX
        clear oX
        go_wp2_with fail
        refine (D2.out _).mono ?_
        rintro e w3 ⟨vY, rfl, oY, hb3⟩
        have hz3 := hb3.size
        obtain ⟨a2, g2, c2, rfl, pY⟩ := good_pin oY (by omega) GY
        replace pX := pX.later hb3
        replace hb3 := hb1.trans (hb3.mono hb1.size)
        clear hb1 D1 D2 oY
        have T := hide (TG.out _ _ _ _ _ _ _ pX pY (by simp))
        have C := hide (fun (w1 : World) (h : Below w3.heap.size w3 w1) => CG.out _ _ _ _ _ _ _ (pX.later h) (pY.later h) (by simp))
        clear pX pY CG TG
        go_wp2_with fail
        refine T.out.mono ?_
        rintro e w4 ⟨vA, vB, rfl, oA, oB, hb4⟩
        obtain ⟨a3, c3, rfl, -, -⟩ := own_shp oA
        have hz4 := hb4.size
        clear oA T
        cases t with
        | false =>
          clear AP AA GZ
          obtain ⟨a4, g4, c4, rfl, p4⟩ := own_pin0 (l := []) oB (by omega) (fun p hp => by cases hp) (by simp)
          clear oB
          go_wp2_with fail
          refine (C.out _ hb4).mono ?_
          rintro e w5 ⟨rfl, hb5⟩
          have A := hide (l3Apply_any a (p4.later hb5) (by simp) (fun p hp => by cases hp) ha)
          replace hb5 := hb3.trans ((hb4.trans (hb5.mono hb4.size)).mono hb3.size)
          generalize apO [] a = RM at *
          obtain ⟨m1, m2⟩ := RM
          simp only at A
          clear AN C hb4 p4
          go_wp2_with fail
          refine A.out.mono ?_
          rintro e w6 ⟨rfl, hb6⟩
          replace hb6 := hb5.trans (hb6.mono hb5.size)
          go_wp2
          go_ret3
          exact ⟨rfl, hb6⟩
        | true =>
          have gz := GZ rfl
          obtain ⟨q1, q2⟩ := AA.out gz
          obtain ⟨a4, g4, c4, rfl, p4⟩ := good_pin (l := Z) oB (by omega) gz
          clear oB AA
          go_wp2_with fail
          refine (C.out _ hb4).mono ?_
          rintro e w5 ⟨rfl, hb5⟩
          have A := hide (AP.out _ _ _ _ (p4.later hb5) gz)
          replace hb5 := hb3.trans ((hb4.trans (hb5.mono hb4.size)).mono hb3.size)
          clear AN C hb4 p4 AP GZ gz
          subst q1
          cases r2 with
          | false =>
            clear q2
            go_wp2_with fail
            refine A.out.mono ?_
            rintro e w6 ⟨rfl, hb6⟩
            replace hb6 := hb5.trans (hb6.mono hb5.size)
            go_wp2
            go_ret3
            exact ⟨rfl, hb6⟩
          | true =>
            obtain ⟨q2, q3⟩ := q2 rfl
            subst q2
            have hz : r1.size ≤ 1048576 := by
              unfold good at q3
              simp only [Bool.and_eq_true, decide_eq_true_eq] at q3
              have := q3.2
              have := sz_list r1
              omega
            have G := hide (fun w1 => goodTextS_any r1 w1 hz)
            rw [q3] at G
            clear q3 hz
            go_wp2_with fail
            refine A.out.mono ?_
            rintro e w6 ⟨rfl, hb6⟩
            replace hb6 := hb5.trans (hb6.mono hb5.size)
            go_wp2_with fail
            refine (G.out _).mono ?_
            rintro e w7 ⟨rfl, hw⟩
            replace hw := hw.symm; subst hw
            go_wp2
            go_ret3
            exact ⟨rfl, hb6⟩

set_option maxRecDepth 100000 in
set_option maxHeartbeats 2000000 in
theorem mergeThreeS (c a b : ByteArray) (w : World) (h0 : 0 < w.heap.size) (hc : c.size ≤ 1048576) (ha : a.size ≤ 1048576) (hb : b.size ≤ 1048576) :
    Calls Tryd.prog 18 #[.string c, .string a, .string b] w fun e w' => e = .returned (.tuple #[.string (mgT c a b), .int .i64 (mgN c a b), .bool (mgK c a b)]) ∧ Below w.heap.size w w' := by
  have G1 := goodTextS_any c w hc
  have G2 := l9Texts_any a b w ha hb
  have M := hide (l10Merge_any c a b w h0 hc ha hb)
  have Z : (good c.data.toList && (good a.data.toList && good b.data.toList)) = false → mgK c a b = false ∧ mgT c a b = ⟨#[]⟩ ∧ mgN c a b = 0 := fun h => by
    have hk : mgK c a b = false := by
      unfold mgK mgB
      cases e1 : dfB c.data.toList a.data.toList with
      | false => rfl
      | true =>
        cases e2 : dfB c.data.toList b.data.toList with
        | false => rfl
        | true =>
          exfalso
          rw [(df_props e1).2.1, (df_props e1).2.2, (df_props e2).2.2] at h
          cases h
    unfold mgT mgN
    rw [hk]
    exact ⟨rfl, rfl, rfl⟩
  generalize mgT c a b = t at *
  generalize mgN c a b = n at *
  generalize mgK c a b = k at *
  generalize good c.data.toList = x at *
  generalize (good a.data.toList && good b.data.toList) = y at *
  replace G1 := hide G1
  replace G2 := hide G2
  cases x with
  | false =>
    obtain ⟨rfl, rfl, rfl⟩ := Z rfl
    clear M Z
    go_enter Tryd.func18, Tryd.ntmps18
    go_wp2_with fail
    refine G1.out.mono ?_
    rintro e w' ⟨rfl, hw⟩
    replace hw := hw.symm; subst hw
    go_wp2
    go_ret3
    exact ⟨rfl, Below.refl _ _⟩
  | true =>
    cases y with
    | false =>
      obtain ⟨rfl, rfl, rfl⟩ := Z rfl
      clear M Z
      go_enter Tryd.func18, Tryd.ntmps18
      go_wp2_with fail
      refine G1.out.mono ?_
      rintro e w' ⟨rfl, hw⟩
      replace hw := hw.symm; subst hw
      go_wp2_with fail
      refine G2.out.mono ?_
      rintro e w' ⟨rfl, hw⟩
      replace hw := hw.symm; subst hw
      go_wp2
      go_ret3
      exact ⟨rfl, Below.refl _ _⟩
    | true =>
      clear Z
      go_enter Tryd.func18, Tryd.ntmps18
      go_wp2_with fail
      refine G1.out.mono ?_
      rintro e w' ⟨rfl, hw⟩
      replace hw := hw.symm; subst hw
      go_wp2_with fail
      refine G2.out.mono ?_
      rintro e w' ⟨rfl, hw⟩
      replace hw := hw.symm; subst hw
      go_wp2_with fail
      refine M.out.mono ?_
      rintro e w1 ⟨rfl, hb1⟩
      go_wp2
      go_ret3
      exact ⟨rfl, hb1⟩
end Go.Proofs.YtbooongkbninhaaDoor
