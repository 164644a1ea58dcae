/- Splices of a text that stand from left to right: what they come to as a change, and that those that touch may be joined. -/
import Derived.Test.YtfiefklhhchebaaDoorOpsM
set_option linter.unusedVariables false
namespace Go.Proofs.YtfiefklhhchebaaDoor
open Go Doc1

structure Spl where
  frm : Nat
  til : Nat
  put : ByteArray
def e0 : ByteArray := ⟨#[]⟩
theorem e0_ba : e0 = ba [] := rfl
/-- The parts so far, and how far the text is told. -/
def gS (s : ByteArray) (a : List Pt × Nat) (y : Spl) : List Pt × Nat := (a.1 ++ [⟨((y.frm - a.2 : Nat) : Int), e0, e0⟩, ⟨0, y.put, e0⟩, ⟨0, e0, s.extract y.frm y.til⟩], y.til)
def gA (s : ByteArray) (ys : List Spl) : List Pt × Nat := ys.foldl (gS s) ([], 0)
def rawG (s : ByteArray) (ys : List Spl) : List Pt := (gA s ys).1 ++ [⟨((s.size - (gA s ys).2 : Nat) : Int), e0, e0⟩]
theorem gA_snoc (s : ByteArray) (ys : List Spl) (y : Spl) : gA s (ys ++ [y]) = gS s (gA s ys) y := by unfold gA; rw [List.foldl_append]; rfl
/-- What is joined. -/
def jst (out : List Spl) (x : Spl) : List Spl := match out.getLast? with
  | none => out ++ [x]
  | some y => if y.til < x.frm then out ++ [x] else out.dropLast ++ [⟨y.frm, x.til, y.put ++ x.put⟩]
def jnt (ys : List Spl) : List Spl := ys.foldl jst []
theorem jnt_snoc (ys : List Spl) (y : Spl) : jnt (ys ++ [y]) = jst (jnt ys) y := by unfold jnt; rw [List.foldl_append]; rfl
theorem jst_nil (x : Spl) : jst [] x = [x] := rfl
theorem jst_far (out : List Spl) (y x : Spl) (h : y.til < x.frm) : jst (out ++ [y]) x = out ++ [y] ++ [x] := by
  unfold jst; rw [List.getLast?_concat]; simp only; rw [if_pos h]
theorem jst_near (out : List Spl) (y x : Spl) (h : ¬ y.til < x.frm) : jst (out ++ [y]) x = out ++ [⟨y.frm, x.til, y.put ++ x.put⟩] := by
  unfold jst; rw [List.getLast?_concat]; simp only; rw [if_neg h, List.dropLast_concat]
/-- Splices that stand from left to right. -/
inductive Asc (s : ByteArray) : List Spl → Prop
  | nil : Asc s []
  | snoc {out : List Spl} {x : Spl} : Asc s out → (gA s out).2 ≤ x.frm → x.frm < x.til → x.til ≤ s.size → Asc s (out ++ [x])
theorem gA_til (s : ByteArray) (out : List Spl) (y : Spl) : (gA s (out ++ [y])).2 = y.til := by rw [gA_snoc]; rfl
theorem asc_take {s : ByteArray} {ys : List Spl} (ha : Asc s ys) : ∀ k (hk : k < ys.length), Asc s (ys.take k) ∧ (gA s (ys.take k)).2 ≤ ys[k].frm ∧ ys[k].frm < ys[k].til ∧ ys[k].til ≤ s.size := by
  induction ha with
  | nil => intro k hk; simp at hk
  | @snoc out x ha h1 h2 h3 ih =>
    intro k hk
    rw [List.length_append, List.length_singleton] at hk
    by_cases hl : k < out.length
    · rw [List.take_append_of_le_length (by omega), List.getElem_append_left hl]
      exact ih k hl
    · obtain rfl : k = out.length := by omega
      rw [List.take_left, List.getElem_append_right (Nat.le_refl _)]
      simp only [Nat.sub_self, List.getElem_singleton]
      exact ⟨ha, h1, h2, h3⟩
/-- Parts that do something. -/
def nt (p : Pt) : Prop := p.keep = 0 ∧ p.put.data.toList = [] ∧ p.drop.data.toList = []
instance (p : Pt) : Decidable (nt p) := by unfold nt; infer_instance
def ftP (l : List Pt) : List Pt := l.filter (fun p => decide (¬ nt p))
theorem ftP_app (a b : List Pt) : ftP (a ++ b) = ftP a ++ ftP b := by unfold ftP; rw [List.filter_append]
theorem ftP_kp (n : Nat) : ftP [⟨(n : Int), e0, e0⟩] = if 0 < n then [kp n] else [] := by
  have e : (⟨(n : Int), e0, e0⟩ : Pt) = kp n := rfl
  unfold ftP
  rw [List.filter_cons, List.filter_nil, e]
  by_cases h : 0 < n
  · rw [if_pos h, if_pos (by rw [decide_eq_true_eq]; intro c; have := c.1; simp [kp] at this; omega)]
  · obtain rfl : n = 0 := by omega
    rw [if_neg h, if_neg (by rw [decide_eq_true_eq]; intro c; exact c ⟨rfl, by rw [kpP], by rw [kpD]⟩)]
theorem ftP_pp (b : ByteArray) : ftP [⟨0, b, e0⟩] = if b.data.toList = [] then [] else [pp b.data.toList] := by
  have e : (⟨0, b, e0⟩ : Pt) = pp b.data.toList := by unfold pp; rw [ba_of]; rfl
  unfold ftP
  rw [List.filter_cons, List.filter_nil]
  by_cases h : b.data.toList = []
  · rw [if_pos h, if_neg (by rw [decide_eq_true_eq]; intro c; exact c ⟨rfl, h, rfl⟩)]
  · rw [if_neg h, if_pos (by rw [decide_eq_true_eq]; intro c; exact h c.2.1), e]
theorem ftP_dp (b : ByteArray) : ftP [⟨0, e0, b⟩] = if b.data.toList = [] then [] else [dp b.data.toList] := by
  have e : (⟨0, e0, b⟩ : Pt) = dp b.data.toList := by unfold dp; rw [ba_of]; rfl
  unfold ftP
  rw [List.filter_cons, List.filter_nil]
  by_cases h : b.data.toList = []
  · rw [if_pos h, if_neg (by rw [decide_eq_true_eq]; intro c; exact c ⟨rfl, rfl, h⟩)]
  · rw [if_neg h, if_pos (by rw [decide_eq_true_eq]; intro c; exact h c.2.2), e]
theorem ftP_three (n : Nat) (b d : ByteArray) : ftP [⟨(n : Int), e0, e0⟩, ⟨0, b, e0⟩, ⟨0, e0, d⟩] = (if 0 < n then [kp n] else []) ++ ((if b.data.toList = [] then [] else [pp b.data.toList]) ++ (if d.data.toList = [] then [] else [dp d.data.toList])) := by
  rw [← ftP_kp, ← ftP_pp, ← ftP_dp, ← ftP_app, ← ftP_app]; rfl

/-- How the gathering stands behind joined splices. -/
def gOf (s : ByteArray) (out : List Spl) : Gs := match out.getLast? with
  | none => g0
  | some y => ⟨ftP ((gA s out.dropLast).1 ++ [⟨((y.frm - (gA s out.dropLast).2 : Nat) : Int), e0, e0⟩]), 0, y.put.data.toList, (s.extract y.frm y.til).data.toList⟩
theorem gOf_nil (s : ByteArray) : gOf s [] = g0 := rfl
theorem gOf_snoc (s : ByteArray) (out : List Spl) (y : Spl) : gOf s (out ++ [y]) = ⟨ftP (gA s out).1 ++ (if 0 < y.frm - (gA s out).2 then [kp (y.frm - (gA s out).2)] else []), 0, y.put.data.toList, (s.extract y.frm y.til).data.toList⟩ := by
  unfold gOf; rw [List.getLast?_concat]; simp only; rw [List.dropLast_concat, ftP_app, ftP_kp]
theorem gath_nil (g : Gs) : gath g [] = g := rfl
theorem gath_pd (g : Gs) (b d : List UInt8) (hd : d ≠ []) : gath g (b.map (fun c => (⟨2, c⟩ : St)) ++ d.map (fun c => (⟨3, c⟩ : St))) = ⟨g.endK.parts, 0, g.put ++ b, g.drop ++ d⟩ := by
  by_cases hb : b = []
  · subst hb
    rw [List.map_nil, List.nil_append, gath_drop d hd, List.append_nil]
  · rw [gath_app, gath_put b hb, gath_drop d hd]
    simp [Gs.endK]
theorem ext_ne {s : ByteArray} {a b : Nat} (h : a < b) (hb : b ≤ s.size) : (s.extract a b).data.toList ≠ [] := by
  intro c
  have : (s.extract a b).size = 0 := by rw [sz_list, c]; rfl
  rw [ByteArray.size_extract] at this
  omega
theorem ext_join (s : ByteArray) {a b c : Nat} (h1 : a ≤ b) (h2 : b ≤ c) (h3 : c ≤ s.size) : (s.extract a b).data.toList ++ (s.extract b c).data.toList = (s.extract a c).data.toList := by
  simp only [ByteArray.data_extract, Array.toList_extract, List.extract_eq_take_drop]
  have e : s.data.toList.drop b = (s.data.toList.drop a).drop (b - a) := by rw [List.drop_drop]; congr 1; omega
  rw [e, show c - a = (b - a) + (c - b) by omega, List.take_add]
theorem st3 (n : Nat) (b d : ByteArray) : stL [⟨(n : Int), e0, e0⟩, ⟨0, b, e0⟩, ⟨0, e0, d⟩] = List.replicate n ⟨1, 0⟩ ++ (b.data.toList.map (fun c => (⟨2, c⟩ : St)) ++ d.data.toList.map (fun c => (⟨3, c⟩ : St))) := by
  simp [stL, stp, e0]
theorem gath_step {s : ByteArray} {out : List Spl} (ha : Asc s out) {x : Spl} (h1 : (gA s out).2 ≤ x.frm) (h2 : x.frm < x.til) (h3 : x.til ≤ s.size) :
    gath (gOf s out) (stL [⟨((x.frm - (gA s out).2 : Nat) : Int), e0, e0⟩, ⟨0, x.put, e0⟩, ⟨0, e0, s.extract x.frm x.til⟩]) = gOf s (jst out x) := by
  rw [st3, gath_app]
  have hd := ext_ne h2 h3
  cases ha with
  | nil =>
    rw [jst_nil, show [x] = [] ++ [x] from rfl, gOf_snoc, gOf_nil]
    have e : gA s [] = ([], 0) := rfl
    rw [e]
    simp only [Nat.sub_zero]
    by_cases hn : 0 < x.frm
    · rw [gath_keep _ hn, gath_pd _ _ _ hd, if_pos hn]
      simp [Gs.endK, Gs.endC, g0, hn, ftP]
    · obtain hz : x.frm = 0 := by omega
      rw [if_neg hn, hz, List.replicate_zero]
      rw [hz] at hd
      rw [gath_nil, gath_pd _ _ _ hd]
      simp [Gs.endK, g0, ftP]
  | @snoc out y ha g1 g2 g3 =>
    rw [gA_til] at h1 ⊢
    have hdy := ext_ne g2 g3
    by_cases hf : y.til < x.frm
    · rw [jst_far _ _ _ hf, gOf_snoc, gOf_snoc, gath_keep _ (by omega), gath_pd _ _ _ hd, gA_til, gA_snoc]
      have hp : 0 < x.frm - y.til := by omega
      simp only [Gs.endK, Gs.endC, gS, Nat.zero_add, if_pos hp, List.nil_append, ftP_app, ftP_three, List.append_assoc]
    · have he : x.frm = y.til := by omega
      rw [jst_near _ _ _ hf, gOf_snoc, gOf_snoc, he, Nat.sub_self, List.replicate_zero]
      rw [he] at hd
      rw [gath_nil, gath_pd _ _ _ hd]
      simp only [Gs.endK, Nat.lt_irrefl, if_false, List.append_nil]
      rw [ext_join s (a := y.frm) (b := y.til) (c := x.til) (by omega) (by omega) (by omega)]
      simp
theorem jst_asc {s : ByteArray} {out : List Spl} (ha : Asc s out) {x : Spl} (h1 : (gA s out).2 ≤ x.frm) (h2 : x.frm < x.til) (h3 : x.til ≤ s.size) : Asc s (jst out x) ∧ (gA s (jst out x)).2 = x.til := by
  cases ha with
  | nil => rw [jst_nil]; exact ⟨.snoc (out := []) .nil h1 h2 h3, rfl⟩
  | @snoc out y ha g1 g2 g3 =>
    rw [gA_til] at h1
    by_cases hf : y.til < x.frm
    · rw [jst_far _ _ _ hf]
      exact ⟨.snoc (.snoc ha g1 g2 g3) (by rw [gA_til]; exact h1) h2 h3, gA_til _ _ _⟩
    · rw [jst_near _ _ _ hf]
      exact ⟨.snoc ha g1 (by show y.frm < x.til; omega) h3, gA_til _ _ _⟩
theorem jnt_asc {s : ByteArray} {ys : List Spl} (ha : Asc s ys) : Asc s (jnt ys) ∧ (gA s (jnt ys)).2 = (gA s ys).2 ∧ gath g0 (stL (gA s ys).1) = gOf s (jnt ys) := by
  induction ha with
  | nil => exact ⟨.nil, rfl, rfl⟩
  | @snoc out x ha h1 h2 h3 ih =>
    obtain ⟨i1, i2, i3⟩ := ih
    rw [← i2] at h1
    have j := jst_asc i1 h1 h2 h3
    rw [jnt_snoc, gA_til]
    refine ⟨j.1, j.2, ?_⟩
    rw [gA_snoc]
    have e : stL (gS s (gA s out) x).1 = stL (gA s out).1 ++ stL [⟨((x.frm - (gA s out).2 : Nat) : Int), e0, e0⟩, ⟨0, x.put, e0⟩, ⟨0, e0, s.extract x.frm x.til⟩] := by
      unfold gS stL; rw [List.flatMap_append]
    rw [e, gath_app, i3, ← i2]
    exact gath_step i1 h1 h2 h3
/-- What is gathered of splices is what joined ones come to. -/
theorem gath_raw {s : ByteArray} {ys : List Spl} (ha : Asc s ys) : (gath g0 (stL (rawG s ys))).out = ftP (rawG s (jnt ys)) := by
  obtain ⟨i1, i2, i3⟩ := jnt_asc ha
  have e : stL (rawG s ys) = stL (gA s ys).1 ++ List.replicate (s.size - (gA s ys).2) ⟨1, 0⟩ := by
    unfold rawG; unfold stL; rw [List.flatMap_append]; simp [stp, e0]
  rw [e, gath_app, i3, ← i2]
  unfold rawG
  rw [ftP_app, ftP_kp]
  generalize jnt ys = J at *
  generalize hn : s.size - (gA s J).2 = n
  cases i1 with
  | nil =>
    rw [gOf_nil]
    have e : gA s [] = ([], 0) := rfl
    rw [e]
    by_cases h0 : 0 < n
    · rw [gath_keep _ h0, if_pos h0]
      simp [Gs.out, Gs.endK, Gs.endC, g0, ftP, h0]
    · obtain rfl : n = 0 := by omega
      rw [if_neg h0]
      simp [gath, Gs.out, Gs.endK, Gs.endC, g0, ftP]
  | @snoc out y hb g1 g2 g3 =>
    rw [gOf_snoc, gA_snoc]
    by_cases h0 : 0 < n
    · rw [gath_keep _ h0, if_pos h0, out_eq]
      simp only [Gs.endC, Nat.zero_add, if_pos h0, if_true, List.append_nil, gS, ftP_app, ftP_three, List.append_assoc]
    · obtain rfl : n = 0 := by omega
      rw [if_neg h0, List.replicate_zero, gath_nil, out_eq]
      simp only [Nat.lt_irrefl, if_false, List.nil_append, List.append_nil, gS, ftP_app, ftP_three, List.append_assoc]
theorem stp_nt {p : Pt} (h : nt p) : stp p = [] := by unfold stp; rw [h.1, h.2.1, h.2.2]; rfl
/-- Adding parts, those that do nothing among them. -/
theorem fold_add : ∀ (l : List Pt) (g : Gs), GI g → (∀ p ∈ l, nt p ∨ pk p ≠ 0) → l.foldl addP g.out = (gath g (stL l)).out
  | [], g, _, _ => rfl
  | p :: l, g, hg, hp => by
    have e : stL (p :: l) = stp p ++ stL l := by simp [stL]
    rw [List.foldl_cons, e, gath_app]
    rcases hp p (by simp) with h | h
    · rw [stp_nt h, show addP g.out p = g.out from if_pos h]
      exact fold_add l g hg (fun q hq => hp q (by simp [hq]))
    · rw [add_part hg h]
      exact fold_add l _ (gi_gath _ _ hg) (fun q hq => hp q (by simp [hq]))
theorem raw_add {s : ByteArray} {ys : List Spl} (ha : Asc s ys) (hp : ∀ p ∈ rawG s ys, nt p ∨ pk p ≠ 0) : (rawG s ys).foldl addP [] = ftP (rawG s (jnt ys)) := by
  rw [← gath_raw ha, ← fold_add _ _ gi0 hp]; rfl
/-- Joined splices do not touch. -/
inductive Far : List Spl → Prop
  | nil : Far []
  | one (x : Spl) : Far [x]
  | snoc {out : List Spl} {y x : Spl} : Far (out ++ [y]) → y.til < x.frm → Far (out ++ [y] ++ [x])
theorem far_last {l : List Spl} (h : Far l) : ∀ {out : List Spl} {y : Spl} (z : Spl), l = out ++ [y] → z.frm = y.frm → Far (out ++ [z]) := by
  cases h with
  | nil => intro out y z e _; simp at e
  | one x =>
    intro out y z e _
    have : out = [] := by
      have := congrArg List.length e
      simp at this
      exact this
    subst this
    exact .one z
  | @snoc o a b h hl =>
    intro out y z e hz
    have e2 := List.append_inj' e rfl
    obtain ⟨e3, e4⟩ := e2
    subst e3
    simp only [List.cons.injEq, and_true] at e4
    subst e4
    exact .snoc h (by rw [hz]; exact hl)
theorem jst_farL {out : List Spl} (h : Far out) (x : Spl) : Far (jst out x) := by
  rcases List.eq_nil_or_concat out with rfl | ⟨o, y, rfl⟩
  · exact .one x
  · rw [List.concat_eq_append] at h ⊢
    by_cases hf : y.til < x.frm
    · rw [jst_far _ _ _ hf]; exact .snoc h hf
    · rw [jst_near _ _ _ hf]; exact far_last h _ rfl rfl
theorem jnt_far (ys : List Spl) : Far (jnt ys) := by
  have key : ∀ (l out : List Spl), Far out → Far (l.foldl jst out) := by
    intro l
    induction l with
    | nil => intro out h; exact h
    | cons x l ih => intro out h; exact ih _ (jst_farL h x)
  exact key ys [] .nil
theorem far_jnt {l : List Spl} (h : Far l) : jnt l = l := by
  induction h with
  | nil => rfl
  | one x => rfl
  | @snoc o y x h hl ih => rw [jnt_snoc, ih, jst_far _ _ _ hl]
theorem ftP_mem {l : List Pt} {p : Pt} (h : p ∈ l) : nt p ∨ p ∈ ftP l := by
  by_cases hn : nt p
  · exact .inl hn
  · exact .inr (List.mem_filter.2 ⟨h, by simpa using hn⟩)
theorem fold_ftP (l : List Pt) : ∀ r : List Pt, (ftP l).foldl addP r = l.foldl addP r := by
  induction l with
  | nil => intro r; rfl
  | cons p l ih =>
    intro r
    by_cases h : nt p
    · have e : ftP (p :: l) = ftP l := by unfold ftP; rw [List.filter_cons_of_neg (by simpa using h)]
      rw [e, ih, List.foldl_cons, show addP r p = r from if_pos h]
    · have e : ftP (p :: l) = p :: ftP l := by unfold ftP; rw [List.filter_cons_of_pos (by simpa using h)]
      rw [e, List.foldl_cons, List.foldl_cons, ih]
/-- What joined splices come to is normal. -/
theorem raw_norm {s : ByteArray} {ys : List Spl} (ha : Asc s ys) (hg : goodO (ftP (rawG s (jnt ys))) = true) : normL (ftP (rawG s (jnt ys))) = ftP (rawG s (jnt ys)) := by
  have hJ := (jnt_asc ha).1
  have hp := goodO_pk hg
  unfold normL
  rw [fold_ftP, raw_add hJ (fun p h => (ftP_mem h).imp id (hp p)), far_jnt (jnt_far ys)]
end Go.Proofs.YtfiefklhhchebaaDoor
