/- Changes that fit: what applying tells of good texts; a row of parts as it is handed in. Servers: the texts of all versions, Seqs that rise, good servers; mathematics. The model's: good entries, the texts of all versions, good servers. The program's: good entries, Seqs that rise, the texts of all versions, good servers. -/
import Derived.Test.YtkjioadmebkaoaaDoorHistM
import Derived.Test.YtkjioadmebkaoaaDoorOpSM
import Derived.Test.YtkjioadmebkaoaaDoorInv1
import Derived.Test.YtkjioadmebkaoaaDoorEntM
import Derived.Test.YtkjioadmebkaoaaDoorRwStr
import Derived.Test.YtkjioadmebkaoaaDoorWalksQ
import Derived.Test.YtkjioadmebkaoaaDoorRow1c
import Derived.Test.YtkjioadmebkaoaaDoorFrm
import Derived.BigQuiet
import Derived.Test.YtkjioadmebkaoaaDoorOpW9M
import Derived.Test.YtkjioadmebkaoaaDoorOpW36
import Derived.Test.YtkjioadmebkaoaaDoorShelf
set_option linter.unusedVariables false
namespace Go.Proofs.YtkjioadmebkaoaaDoor
open Go.RowKit
open Doc1

theorem good_sz {s : ByteArray} (h : good s.data.toList = true) : s.size ≤ 300 := by
  unfold good at h
  simp at h
  exact h.2
theorem apl_gd {l : List Pt} {s : ByteArray} (h : (aplO l s).2 = true) : good (aplO l s).1.data.toList = true := by
  have u := (undo h).1
  exact (apl_yes (l := invO l) (s := (aplO l s).1) (by rw [u])).2.1
theorem apl_apO {l : List Pt} {s : ByteArray} (h1 : goodO l = true) (h2 : good s.data.toList = true) : (aplO l s).2 = (apO l s).2 ∧ ((apO l s).2 = true → (aplO l s).1 = (apO l s).1 ∧ good (apO l s).1.data.toList = true) := by
  have h3 := @apl_gd l s
  unfold aplO at h3 ⊢
  cases h : (apO l s).2 with
  | false => rw [if_neg (by simp)]; exact ⟨rfl, fun c => by cases c⟩
  | true =>
    rw [h, if_pos ⟨h1, h2, rfl⟩] at h3
    rw [if_pos ⟨h1, h2, rfl⟩]
    exact ⟨rfl, fun _ => ⟨rfl, h3 rfl⟩⟩
theorem apl_no {l : List Pt} {s : ByteArray} (h : goodO l = false) : (aplO l s).2 = false := by
  unfold aplO
  rw [h, if_neg (by simp)]
theorem szP_each {l : List Pt} {B : Nat} (h : szPn l ≤ B) (j : Nat) (hj : j < l.length) : l[j].put.size ≤ B ∧ l[j].drop.size ≤ B := by
  unfold szPn at h
  have h1 := szPU_succ l j hj
  have h2 := szPU_mono l (j + 1) l.length hj
  omega
theorem PR.pin {w : World} {v : Value} {l : List Pt} (h : PR w v l) (h0 : 0 < w.heap.size) (hl : l.length ≤ 1048576) (hs : ∀ j (hj : j < l.length), l[j].put.size ≤ 1048576 ∧ l[j].drop.size ≤ 1048576) : ∃ aw g cap, v = .slice aw l.length cap ∧ Pin w aw g cap l := by
  rcases h with ⟨rfl, a, c, rfl, hc⟩ | ⟨g, cap, rfl, h1, h2, h3, h4, -⟩
  · exact ⟨a, 0, c, rfl, ⟨Nat.zero_le _, hc⟩, hs, by simp, fun j u hu => by simp [encP] at hu, h0, fun c => absurd rfl c⟩
  · exact ⟨_, g, cap, rfl, ⟨h1, h2⟩, hs, hl, h4, h3, fun _ => rfl⟩
end Go.Proofs.YtkjioadmebkaoaaDoor

set_option linter.unusedVariables false
namespace Go.Proofs.YtkjioadmebkaoaaDoor
open Go.RowKit
open Doc1

def eAt (l : List En) (i : Nat) : En := l[i]?.getD ⟨0, 0, []⟩
theorem eAt_eq {l : List En} {i : Nat} (h : i < l.length) : eAt l i = l[i] := by simp [eAt, h]
/-- The text at a version. -/
def tx (s : ByteArray) (l : List En) : Nat → ByteArray
  | 0 => s
  | k + 1 => (aplO (eAt l k).op (tx s l k)).1
theorem tx_succ (s : ByteArray) (l : List En) (k : Nat) : tx s l (k + 1) = (aplO (eAt l k).op (tx s l k)).1 := rfl
/-- The texts of the first versions. -/
def vtk (s : ByteArray) (l : List En) (k : Nat) : List ByteArray := (List.range (k + 1)).map (tx s l)
theorem vtk_len (s : ByteArray) (l : List En) (k : Nat) : (vtk s l k).length = k + 1 := by simp [vtk]
theorem vtk_at (s : ByteArray) (l : List En) {k i : Nat} (h : i ≤ k) : (vtk s l k)[i]? = some (tx s l i) := by
  unfold vtk
  rw [List.getElem?_map, List.getElem?_range (by omega)]
  rfl
theorem vtk_succ (s : ByteArray) (l : List En) (k : Nat) : vtk s l (k + 1) = vtk s l k ++ [tx s l (k + 1)] := by
  unfold vtk
  rw [List.range_succ, List.map_append]
  rfl
/-- A good entry. -/
def enG (e : En) : Prop := (0 ≤ e.cl ∧ e.cl ≤ 9) ∧ (1 ≤ e.sq ∧ e.sq ≤ 1000) ∧ goodO e.op = true
instance (e : En) : Decidable (enG e) := by unfold enG; infer_instance
/-- The first fit. -/
def fitK (s : ByteArray) (l : List En) (k : Nat) : Prop := ∀ i, i < k → (aplO (eAt l i).op (tx s l i)).2 = true
/-- The first are good. -/
def engK (l : List En) (k : Nat) : Prop := ∀ i, i < k → enG (eAt l i)
/-- The Seqs of the first rise. -/
def riK (l : List En) (k : Nat) : Prop := ∀ i, i < k → ∀ j, j < i → (eAt l j).cl = (eAt l i).cl → (eAt l j).sq < (eAt l i).sq
/-- A good server. -/
structure GSv (s t : ByteArray) (l : List En) : Prop where
  st : good s.data.toList = true
  len : l.length ≤ 60
  eng : engK l l.length
  fit : fitK s l l.length
  ri : riK l l.length
  tx : tx s l l.length = t
open Classical in
noncomputable def goodSv (s t : ByteArray) (l : List En) : Bool := decide (GSv s t l)
open Classical in
theorem gsv_yes {s t : ByteArray} {l : List En} (h : GSv s t l) : goodSv s t l = true := by unfold goodSv; exact decide_eq_true h
open Classical in
theorem gsv_no {s t : ByteArray} {l : List En} (h : ¬ GSv s t l) : goodSv s t l = false := by unfold goodSv; exact decide_eq_false h
open Classical in
theorem gsv_of {s t : ByteArray} {l : List En} (h : goodSv s t l = true) : GSv s t l := by unfold goodSv at h; exact of_decide_eq_true h
/-- The last Seq of a client among the first. -/
def lastS (l : List En) (c : Int) : Nat → Int
  | 0 => 0
  | k + 1 => if (eAt l k).cl = c then (eAt l k).sq else lastS l c k
theorem last_from (l : List En) (c : Int) : ∀ k, lastS l c k = 0 ∨ ∃ j, j < k ∧ (eAt l j).cl = c ∧ (eAt l j).sq = lastS l c k
  | 0 => .inl rfl
  | k + 1 => by
    unfold lastS
    by_cases h : (eAt l k).cl = c
    · rw [if_pos h]; exact .inr ⟨k, by omega, h, rfl⟩
    · rw [if_neg h]
      rcases last_from l c k with e | ⟨j, h1, h2, h3⟩
      · exact .inl e
      · exact .inr ⟨j, by omega, h2, h3⟩
theorem last_ge (l : List En) (c : Int) : ∀ k, riK l k → ∀ j, j < k → (eAt l j).cl = c → (eAt l j).sq ≤ lastS l c k
  | 0, _, j, hj, _ => by omega
  | k + 1, hr, j, hj, hc => by
    unfold lastS
    by_cases h : (eAt l k).cl = c
    · rw [if_pos h]
      by_cases e : j = k
      · subst e; exact Int.le_refl _
      · have := hr k (by omega) j (by omega) (by rw [hc, h])
        omega
    · rw [if_neg h]
      have e : j ≠ k := by rintro rfl; exact h hc
      exact last_ge l c k (fun i hi => hr i (by omega)) j (by omega) hc
theorem ri_succ {l : List En} {k : Nat} (hr : riK l k) (hq : 1 ≤ (eAt l k).sq) : riK l (k + 1) ↔ lastS l (eAt l k).cl k < (eAt l k).sq := by
  constructor
  · intro h
    rcases last_from l (eAt l k).cl k with e | ⟨j, h1, h2, h3⟩
    · omega
    · have := h k (by omega) j h1 h2
      omega
  · intro h i hi j hj hc
    by_cases e : i = k
    · subst e
      have := last_ge l (eAt l i).cl i hr j hj hc
      omega
    · exact hr i (by omega) j hj hc
theorem tx_good {s : ByteArray} {l : List En} (hs : good s.data.toList = true) : ∀ k, fitK s l k → good (tx s l k).data.toList = true
  | 0, _ => hs
  | k + 1, h => apl_gd (h k (by omega))
theorem fit_succ {s : ByteArray} {l : List En} {k : Nat} (h : fitK s l k) (h2 : (aplO (eAt l k).op (tx s l k)).2 = true) : fitK s l (k + 1) := fun i hi => by
  by_cases e : i = k
  · subst e; exact h2
  · exact h i (by omega)
theorem eng_succ {l : List En} {k : Nat} (h : engK l k) (h2 : enG (eAt l k)) : engK l (k + 1) := fun i hi => by
  by_cases e : i = k
  · subst e; exact h2
  · exact h i (by omega)
/-- Of bounded size. -/
def SmE (l : List En) : Prop := l.length ≤ 1048576 ∧ ∀ i (hi : i < l.length), l[i].op.length ≤ 1048576 ∧ ∀ j (hj : j < l[i].op.length), l[i].op[j].put.size ≤ 1048576 ∧ l[i].op[j].drop.size ≤ 1048576
theorem smE_of {l : List En} (h : szEn l ≤ 1048576) : SmE l := by
  obtain ⟨h1, h2⟩ := szE_each h
  exact ⟨h1, fun i hi => ⟨by have := h2 i hi; have := szPn_len l[i].op; omega, fun j hj => szP_each (h2 i hi) j hj⟩⟩
theorem EMo.pin {K : Nat} {S : Nat → Prop} {w : World} {g off : Nat} {l : List En} {vs : Nat → Value} (h : EMo K S w g off l vs 0) (hm : SmE l) (i : Nat) (hi : i < l.length) : ∃ aw gi cap, vs i = .slice aw l[i].op.length cap ∧ Pin w aw gi cap l[i].op :=
  (h.op i hi (Nat.zero_le _)).pin (Nat.lt_of_le_of_lt (Nat.zero_le _) h.lt) (hm.2 i hi).1 (hm.2 i hi).2
/-- An entry as a value. -/
def enV (e : En) (v : Value) : Value := .agg #[.int .i64 e.cl, .int .i64 e.sq, v]
theorem SOwn.app1 {w : World} {B : Nat} {v : Value} {l : List ByteArray} {s : ByteArray} (h : w.ownsRow B 9 1 v (l.length + 1) (encSt l ++ [.string s])) : SOwn w B v (l ++ [s]) := by
  unfold SOwn
  rw [List.length_append, List.length_singleton]
  simpa [encSt] using h
end Go.Proofs.YtkjioadmebkaoaaDoor

set_option linter.unusedVariables false
namespace Go.Proofs.YtkjioadmebkaoaaDoor
open Go.RowKit
open Doc1

theorem Tryd.infoStr : (Tryd.prog.info? 9).map (fun i => (i.zero, i.size, i.bytes)) = some (some (.string ⟨#[]⟩), 1, 16) := by kernel_rfl

theorem own_newR (w : World) (e : TypeId) (cs : Array Value) (n size : Nat) (hn : cs.size = n * size) (hl : n ≤ 1000000) : (w.alloc (.cells cs e)).ownsRow w.heap.size e size (.slice (some ⟨w.heap.size, 0, none⟩) n n) n cs.toList :=
  ⟨by rw [Array.length_toList]; exact hn, .inr ⟨w.heap.size, n, cs, rfl, Nat.le_refl _, heap_alloc_new w _, Nat.le_refl _, by unfold maxLen; omega, hn, List.take_of_length_le (by rw [Array.length_toList]; omega)⟩⟩
theorem own_newS (w : World) (s : ByteArray) : SOwn (w.alloc (.cells #[.string s] 9)) w.heap.size (.slice (some ⟨w.heap.size, 0, none⟩) 1 1) [s] := own_newR w 9 #[.string s] 1 1 rfl (by omega)

theorem strSame {a b : ByteArray} (h : a = b) : (a.toList == b.toList) = true := by rw [h]; simp
theorem strOther {a b : ByteArray} (h : ¬ a = b) : (a.toList == b.toList) = false := by
  rw [beq_eq_false_iff_ne, ByteArray.toList_eq, ByteArray.toList_eq]
  exact fun c => h (ByteArray.ext (Array.ext' c))

/-- A row of entries, opened. -/
def EIn (S : Nat → Prop) (w : World) (a : Option Addr) (cap g off : Nat) (vs : Nat → Value) (l : List En) : Prop := 0 < l.length → a = some ⟨g, off, none⟩ ∧ l.length ≤ cap ∧ cap ≤ maxLen ∧ EMo 0 S w g off l vs 0
theorem ER.ein {S : Nat → Prop} {w : World} {v : Value} {l : List En} (h : ER S w v l) : ∃ a cap g off vs, v = .slice a l.length cap ∧ EIn S w a cap g off vs l := by
  rcases h with ⟨rfl, a, c, rfl⟩ | ⟨g, off, c, vs, rfl, h1, h2, h3, h4⟩
  · exact ⟨a, c, 0, 0, fun _ => undef, rfl, fun h => by simp at h⟩
  · exact ⟨_, c, g, off, vs, rfl, fun _ => ⟨rfl, h2, h3, h4⟩⟩
theorem EIn.later {S : Nat → Prop} {w w1 : World} {a : Option Addr} {cap g off : Nat} {vs : Nat → Value} {l : List En} (h : EIn S w a cap g off vs l) (hb : Below w.heap.size w w1) : EIn S w1 a cap g off vs l := fun h0 => by
  obtain ⟨h1, h2, h3, h4⟩ := h h0
  exact ⟨h1, h2, h3, h4.later hb⟩

set_option maxRecDepth 100000 in
set_option maxHeartbeats 2000000 in
theorem l15Entry_any {w : World} {aw : Option Addr} {g cap : Nat} {l : List Pt} (x s : Int) (h : Pin w aw g cap l) :
    Calls Tryd.prog 177 #[.agg #[.int .i64 x, .int .i64 s, .slice aw l.length cap]] w fun e w' => e = .returned (.bool (decide (enG ⟨x, s, l⟩))) ∧ Below w.heap.size w w' := by
  have hb : Below w.heap.size w (w.alloc (.cells #[.int .i64 x, .int .i64 s, .slice aw l.length cap] 191)) := (Below.refl _ _).alloc (Nat.le_refl _) _
  have G := hide (goodOpS (h.later hb))
  have HB := hide hb
  have J := hide (fun n lo hi w => l1In_any n lo hi w)
  clear h hb
  obtain ⟨R, hR⟩ : ∃ R, R = decide (enG ⟨x, s, l⟩) := ⟨_, rfl⟩
  rw [← hR]
  have HR := hide hR
  clear hR
  by_cases h1 : 0 ≤ x ∧ x ≤ 9
  · have E1 : Hid (decide ((0 : Int) ≤ x ∧ x ≤ 9) = true) := hide (decide_eq_true h1)
    by_cases h2 : 1 ≤ s ∧ s ≤ 1000
    · have E2 : Hid (decide ((1 : Int) ≤ s ∧ s ≤ 1000) = true) := hide (decide_eq_true h2)
      have RR : Hid (R = goodO l) := hide (by
        rw [HR.out]
        cases hg : goodO l with
        | true => exact decide_eq_true ⟨h1, h2, hg⟩
        | false => exact decide_eq_false (fun c => by have := c.2.2; simp only at this; rw [hg] at this; cases this))
      rw [RR.out]
      clear HR RR h1 h2
      go_enter Tryd.func177, Tryd.ntmps177
      go_wp2_with (first | (go_at_call 73; refine (J.out _ _ _ _).mono ?_; rintro e w' ⟨rfl, hw⟩; replace hw := hw.symm; subst hw; first | rw [E1.out] | rw [E2.out]) | (go_at_call 82; refine G.out.mono ?_; rintro e w2 ⟨rfl, hb2⟩))
      go_ret
      exact ⟨rfl, HB.out.trans (hb2.mono HB.out.size)⟩
    · have E2 : Hid (decide ((1 : Int) ≤ s ∧ s ≤ 1000) = false) := hide (decide_eq_false h2)
      have RR : Hid (R = false) := hide (by rw [HR.out]; exact decide_eq_false (fun c => h2 c.2.1))
      rw [RR.out]
      clear HR RR h1 h2
      go_enter Tryd.func177, Tryd.ntmps177
      go_wp2_with (first | (go_at_call 73; refine (J.out _ _ _ _).mono ?_; rintro e w' ⟨rfl, hw⟩; replace hw := hw.symm; subst hw; first | rw [E1.out] | rw [E2.out]))
      go_ret
      exact ⟨rfl, HB.out⟩
  · have E1 : Hid (decide ((0 : Int) ≤ x ∧ x ≤ 9) = false) := hide (decide_eq_false h1)
    have RR : Hid (R = false) := hide (by rw [HR.out]; exact decide_eq_false (fun c => h1 c.1))
    rw [RR.out]
    clear HR RR h1
    go_enter Tryd.func177, Tryd.ntmps177
    go_wp2_with (first | (go_at_call 73; refine (J.out _ _ _ _).mono ?_; rintro e w' ⟨rfl, hw⟩; replace hw := hw.symm; subst hw; rw [E1.out]))
    go_ret
    exact ⟨rfl, HB.out⟩

/-- What the texts of all versions are told as. -/
def TxPost (s : ByteArray) (l : List En) (w : World) (e : Ending) (w' : World) : Prop :=
  (fitK s l l.length → ∃ x, e = .returned (.tuple #[x, .bool true]) ∧ SOwn w' w.heap.size x (vtk s l l.length)) ∧ (¬ fitK s l l.length → e = .returned (.tuple #[.slice none 0 0, .bool false])) ∧ Below w.heap.size w w'

set_option maxRecDepth 100000 in
set_option maxHeartbeats 4000000 in
theorem textsS {S : Nat → Prop} {w : World} {v : Value} {s t : ByteArray} {l : List En} (h : ER S w v l) (hm : SmE l) (hs : good s.data.toList = true) (hl : l.length ≤ 60) (hg : ∀ i (hi : i < l.length), goodO l[i].op = true) :
    Calls Tryd.prog 129 #[.agg #[.string s, .string t, v]] w (TxPost s l w) := by
  obtain ⟨a, cap, g, off, vs, rfl, hE⟩ := h.ein
  obtain ⟨i0, hi0, hz0, hz1, hz2⟩ := info_parts Tryd.infoStr
  have HE := hide hE
  have HM := hide hm
  have HS := hide hs
  have HG := hide hg
  unfold TxPost
  have hb1 : Below w.heap.size w ((w.alloc (.cells #[.string s, .string t, .slice a l.length cap] 79)).alloc (.cells #[.string s] 9)) := ((Below.refl _ _).alloc (Nat.le_refl _) _).alloc (by simp) _
  have hO := (own_newS (w.alloc (.cells #[.string s, .string t, .slice a l.length cap] 79)) s).mono (B' := w.heap.size) (by simp)
  rw [World.size_alloc] at hO
  have H0 := hide (And.intro hO hb1)
  clear h hE hm hs hg hO hb1
  go_enter Tryd.func129, Tryd.ntmps129
  go_wp2
  go_loopw [4, 5, 18] (fun x tt i wr => ∃ k : Nat, k ≤ l.length ∧ i = .int .i64 k ∧ tt = .string (tx s l k) ∧ ∃ v0, v0 = x ∧ Hid (SOwn wr w.heap.size v0 (vtk s l k) ∧ Below w.heap.size w wr ∧ fitK s l k)) (fun _ _ i _ => l.length - (intOf i).toNat)
  case atStart => exact ⟨0, by omega, rfl, rfl, _, rfl, hide ⟨H0.out.1, H0.out.2, fun i hi => by omega⟩⟩
  case round =>
    obtain ⟨k, hk, rfl, rfl, x, rfl, HR⟩ := hrel
    by_cases hlt : k < l.length
    · obtain ⟨rfl, hc1, hc2, hd0⟩ := HE.out (by omega)
      have hd := hd0.later HR.out.2.1
      have c2 := hd.c k hlt
      obtain ⟨c0, c1⟩ := hd.ua k hlt (Nat.zero_le _)
      obtain ⟨aw, gi, ci, ev, hp⟩ := hd.pin HM.out k hlt
      rw [ev] at c2
      have hgo := HG.out k hlt
      have hgt := tx_good HS.out k HR.out.2.2
      obtain ⟨hap1, hap2⟩ := apl_apO hgo hgt
      have hgsz := good_sz hgt
      have hwa : Below wr.heap.size wr (wr.alloc (.cells #[.int .i64 l[k].cl, .int .i64 l[k].sq, .slice aw l[k].op.length ci] 191)) := (Below.refl _ _).alloc (Nat.le_refl _) _
      have AP := hide (l3Apply_any (tx s l k) (hp.later hwa) (goodO_le hgo).1 (goodO_pk hgo) (by omega))
      have HWA := hide hwa
      have hBw := HR.out.2.1.size
      clear hd hd0 hp ev
      cases hok : (apO l[k].op (tx s l k)).2 with
      | false =>
        have hno : Hid (¬ fitK s l l.length) := hide (fun c => by have := c k hlt; rw [eAt_eq hlt, hap1, hok] at this; cases this)
        rw [hok] at AP
        clear hap1 hap2 hgt hok hgo
        go_wp2_with fail
        refine AP.out.mono ?_
        rintro e w2 ⟨rfl, hb2⟩
        have HB2 := hide (HR.out.2.1.trans ((HWA.out.trans (hb2.mono HWA.out.size)).mono hBw))
        clear hb2 c0 c1 c2 AP
        go_wp2
        go_ret2
        exact ⟨fun c => absurd c hno.out, fun _ => rfl, HB2.out⟩
      | true =>
        obtain ⟨hap3, hap4⟩ := hap2 hok
        have hfs : Hid (fitK s l (k + 1)) := hide (fit_succ HR.out.2.2 (by rw [eAt_eq hlt, hap1, hok]))
        have htx : Hid ((apO l[k].op (tx s l k)).1 = tx s l (k + 1)) := hide (by rw [← hap3, tx_succ, eAt_eq hlt])
        rw [htx.out] at AP hap4
        have hsz2 := good_sz hap4
        have GT := hide (fun w' => goodTextS_any (tx s l (k + 1)) w' (by omega))
        rw [hap4] at GT
        rw [hok] at AP
        clear hap1 hap2 hap3 hap4 hgt hok hgo htx
        obtain ⟨T, hT⟩ : ∃ T, tx s l (k + 1) = T := ⟨_, rfl⟩
        rw [hT] at AP GT
        have HT := hide hT
        clear hT
        go_wp2_with fail
        refine AP.out.mono ?_
        rintro e w2 ⟨rfl, hb2⟩
        have HO2 : Hid (SOwn w2 w.heap.size x (vtk s l k)) := hide (own_below HR.out.1 (HWA.out.trans (hb2.mono HWA.out.size)))
        have HB2 := hide (HR.out.2.1.trans ((HWA.out.trans (hb2.mono HWA.out.size)).mono hBw))
        have hB2 := HB2.out.size
        have hvl := vtk_len s l k
        clear hb2 c0 c1 c2 AP HR
        go_wp2_with fail
        refine (GT.out w2).mono ?_
        rintro e w3 ⟨rfl, hw3⟩
        replace hw3 := hw3.symm
        subst hw3
        go_wp2_with (at_builtin; go_loud (refine wpList_append_loc _ rfl _ _ 63 rfl w.heap.size 9 i0 (.string ⟨#[]⟩) 1 16 Tryd.underlying63 hi0 hz0 hz1 hz2 rfl (by decide) _ _ _ rfl (World.ownsRow.alloc HO2.out _) ⟨w2.heap.size, 0, none⟩ 1 1 [.string T] rfl rfl (World.news_of_block (cs := #[.string T]) (t := 9) (fr := (0, 0)) (heap_alloc_new w2 _)) (by simp [Value.oneCell']) (by unfold maxLen; omega) (by omega) (by simp; omega) ?_); intro v5 w5 own5 grow5 loc5; have HR5 : Hid (SOwn w5 w.heap.size v5 (vtk s l (k + 1)) ∧ Below w.heap.size w w5 ∧ fitK s l (k + 1)) := hide ⟨(by rw [vtk_succ, HT.out]; exact SOwn.app1 own5), below_append HB2.out HO2.out (by omega) grow5, hfs.out⟩; clear own5 grow5 loc5 HO2 HB2)
        refine ⟨⟨k + 1, by omega, by go_num, by rw [HT.out], v5, rfl, HR5⟩, by simp [intOf]; omega⟩
    · obtain rfl : k = l.length := by omega
      have HE1 := hide HR.out.2.2
      have HE2 := hide (And.intro HR.out.1 HR.out.2.1)
      clear HR
      go_wp2
      go_ret2
      exact ⟨fun _ => ⟨_, rfl, HE2.out.1⟩, fun c => absurd HE1.out c, HE2.out.2⟩

theorem cut_toE (g o n cap y : Nat) (h : y ≤ cap) (w : World) : (Instr.slice 77 (.slice (some ⟨g, o, none⟩) n cap) none (some (.int .i64 (y : Int))) none).run Tryd.prog w = .ok (.slice (some ⟨g, o, none⟩) y cap) w := by
  simp [go_sem, Tryd.underlying77, h]

set_option maxRecDepth 100000 in
set_option maxHeartbeats 8000000 in
theorem goodSvS {S : Nat → Prop} {w : World} {v : Value} {s t : ByteArray} {l : List En} (h : ER S w v l) (hm : SmE l) (hss : s.size ≤ 1048576) :
    Calls Tryd.prog 128 #[.agg #[.string s, .string t, v]] w fun e w' => e = .returned (.bool (goodSv s t l)) ∧ Below w.heap.size w w' := by
  obtain ⟨a, cap, g, off, vs, rfl, hE⟩ := h.ein
  obtain ⟨w1, hw1⟩ : ∃ w1, w1 = w.alloc (.cells #[.string s, .string t, .slice a l.length cap] 79) := ⟨_, rfl⟩
  have hb1 : Below w.heap.size w w1 := by rw [hw1]; exact (Below.refl _ _).alloc (Nat.le_refl _) _
  have cb1 : CB w1 w.heap.size #[.string s, .string t, .slice a l.length cap] := by rw [hw1]; exact CB.new _ _ _
  have GT := hide (fun w' => goodTextS_any s w' hss)
  have hlM := hm.1
  cases hgs : good s.data.toList with
  | false =>
    have RR : Hid (goodSv s t l = false) := hide (gsv_no (fun c => by have := c.st; rw [hgs] at this; cases this))
    rw [RR.out]
    rw [hgs] at GT
    have HB := hide hb1
    clear h hE hm hb1 cb1 hgs RR
    go_enter Tryd.func128, Tryd.ntmps128
    go_wp2_with fail
    rw [← hw1]
    refine (GT.out _).mono ?_
    rintro e w2 ⟨rfl, hw2⟩
    obtain rfl := hw2.symm
    clear hw1
    go_wp2
    go_ret
    exact ⟨rfl, HB.out⟩
  | true =>
    rw [hgs] at GT
    by_cases h60 : l.length ≤ 60
    · have d60 : decide (60 < (l.length : Int)) = false := by rw [decide_eq_false_iff_not]; omega
      have HH := hide h
      have HE := hide hE
      have HM := hide hm
      have HG := hide hgs
      have HB := hide hb1
      have HC := hide cb1
      clear h hE hm hb1 cb1 hgs
      go_enter Tryd.func128, Tryd.ntmps128
      go_wp2_with fail
      rw [← hw1]
      refine (GT.out _).mono ?_
      rintro e w2 ⟨rfl, hw2⟩
      obtain rfl := hw2.symm
      have c2 := HC.out.cell 2 rfl
      simp only [List.getElem_toArray, List.getElem_cons_succ, List.getElem_cons_zero] at c2
      clear hw1
      go_wp2
      go_loopw [22] (fun i wr => ∃ k : Nat, k ≤ l.length ∧ i = .int .i64 k ∧ Hid (Below w1.heap.size w1 wr ∧ engK l k ∧ riK l k)) (fun i _ => l.length - (intOf i).toNat)
      case atStart => exact ⟨0, by omega, rfl, hide ⟨Below.refl _ _, fun i hi => by omega, fun i hi => by omega⟩⟩
      case round =>
        obtain ⟨k, hk, rfl, HR⟩ := hrel
        by_cases hlt : k < l.length
        · obtain ⟨rfl, hc1, hc2, hd0⟩ := HE.out (by omega)
          have hBw := HB.out.size
          have hB0 : Below w.heap.size w wr := HB.out.trans (HR.out.1.mono hBw)
          have hd := hd0.later hB0
          have c2' := hd.c k hlt
          obtain ⟨c0', c1'⟩ := hd.ua k hlt (Nat.zero_le _)
          obtain ⟨aw, gi, ci, ev, hp⟩ := hd.pin HM.out k hlt
          rw [ev] at c2'
          obtain ⟨w3, hw3⟩ : ∃ w3, w3 = wr.alloc (.cells #[.int .i64 l[k].cl, .int .i64 l[k].sq, .slice aw l[k].op.length ci] 191) := ⟨_, rfl⟩
          have hwa : Below wr.heap.size wr w3 := by rw [hw3]; exact (Below.refl _ _).alloc (Nat.le_refl _) _
          have cbx : CB w3 wr.heap.size #[.int .i64 l[k].cl, .int .i64 l[k].sq, .slice aw l[k].op.length ci] := by rw [hw3]; exact CB.new _ _ _
          have EG := hide (l15Entry_any l[k].cl l[k].sq (hp.later hwa))
          have HC3 : Hid (CB w3 w.heap.size #[.string s, .string t, .slice (some ⟨g, off, none⟩) l.length cap]) := hide ((HC.out.later HR.out.1).later hwa)
          have HBX := hide cbx
          have HB3 : Hid (Below w1.heap.size w1 w3) := hide (HR.out.1.trans (hwa.mono HR.out.1.size))
          have HB0 := hide (HB.out.trans (HB3.out.mono hBw))
          have HDM : Hid (EMo 0 S w3 g off l vs 0) := hide (hd.later hwa)
          have hea : Hid (eAt l k = ⟨l[k].cl, l[k].sq, l[k].op⟩) := hide (eAt_eq hlt)
          clear hd hd0 hp ev hwa cbx hB0
          by_cases hen : enG ⟨l[k].cl, l[k].sq, l[k].op⟩
          · rw [decide_eq_true hen] at EG
            have hes : Hid (engK l (k + 1)) := hide (eng_succ HR.out.2.1 (by rw [hea.out]; exact hen))
            go_wp2_with fail
            rw [← hw3]
            refine EG.out.mono ?_
            rintro e w4 ⟨rfl, hb4⟩
            have HB4 : Hid (Below w1.heap.size w1 w4) := hide (HB3.out.trans (hb4.mono HB3.out.size))
            have HC4 := hide (HC3.out.later hb4)
            have HBX4 := hide (HBX.out.later hb4)
            have HD4 := hide (HDM.out.later hb4)
            have k2 := HC4.out.cell 2 rfl
            simp only [List.getElem_toArray, List.getElem_cons_succ, List.getElem_cons_zero] at k2
            have hct := fun w => cut_toE g off l.length cap k (by omega) w
            clear hb4 hw3 c0' c1' c2' EG
            go_wp2
            go_loopw [35] (fun j wx => ∃ m : Nat, m ≤ k ∧ j = .int .i64 m ∧ Hid (Below w4.heap.size w4 wx ∧ ∀ q, q < m → (eAt l q).cl = l[k].cl → (eAt l q).sq < l[k].sq)) (fun j _ => k - (intOf j).toNat)
            case atStart => exact ⟨0, by omega, rfl, hide ⟨Below.refl _ _, fun q hq => by omega⟩⟩
            case round =>
              obtain ⟨m, hmk, rfl, HX⟩ := hrel
              by_cases hml : m < k
              · have hdx := HD4.out.later HX.out.1
                have x2 := hdx.c m (by omega)
                obtain ⟨x0, x1⟩ := hdx.ua m (by omega) (Nat.zero_le _)
                obtain ⟨ax, cx, ex⟩ := (hdx.op m (by omega) (Nat.zero_le _)).shp
                rw [ex] at x2
                have bxx := HBX4.out.later HX.out.1
                have y0 := fun o : Obj => (bxx.later ((Below.refl _ _).alloc (Nat.le_refl _) o)).cell 0 rfl
                have y1 := fun o : Obj => (bxx.later ((Below.refl _ _).alloc (Nat.le_refl _) o)).cell 1 rfl
                simp only [List.getElem_toArray, List.getElem_cons_succ, List.getElem_cons_zero] at y0 y1
                have hem : Hid (eAt l m = l[m]) := hide (eAt_eq (by omega))
                have hB4 := HB4.out.size
                have HBx : Hid (∀ o, Below w4.heap.size w4 (wr.alloc o)) := hide (fun o => HX.out.1.alloc HX.out.1.size _)
                clear hdx bxx ex
                by_cases heq : l[m].cl = l[k].cl
                · by_cases hge : l[k].sq ≤ l[m].sq
                  · have RR : Hid (goodSv s t l = false) := hide (gsv_no (fun c => by
                      have := c.ri k hlt m hml
                      rw [hem.out, eAt_eq hlt] at this
                      have := this heq
                      omega))
                    go_wp2
                    go_ret
                    exact ⟨by rw [RR.out]; rfl, HB.out.trans ((HB4.out.trans ((HBx.out _).mono hB4)).mono hBw)⟩
                  · have HN : Hid (∀ q, q < m + 1 → (eAt l q).cl = l[k].cl → (eAt l q).sq < l[k].sq) := hide (fun q hq hc => by
                      by_cases e : q = m
                      · subst e; rw [hem.out]; omega
                      · exact HX.out.2 q (by omega) hc)
                    go_wp2
                    refine ⟨⟨m + 1, by omega, by go_num, hide ⟨HBx.out _, HN.out⟩⟩, by simp [intOf]; omega⟩
                · have HN : Hid (∀ q, q < m + 1 → (eAt l q).cl = l[k].cl → (eAt l q).sq < l[k].sq) := hide (fun q hq hc => by
                    by_cases e : q = m
                    · subst e; rw [hem.out] at hc; exact absurd hc heq
                    · exact HX.out.2 q (by omega) hc)
                  go_wp2
                  refine ⟨⟨m + 1, by omega, by go_num, hide ⟨HBx.out _, HN.out⟩⟩, by simp [intOf]; omega⟩
              · obtain rfl : m = k := by omega
                have HF : Hid (Below w1.heap.size w1 wr ∧ engK l (m + 1) ∧ riK l (m + 1)) := hide ⟨HB4.out.trans (HX.out.1.mono HB4.out.size), hes.out, fun i hi q hq hc => by
                  by_cases e : i = m
                  · subst e
                    rw [eAt_eq hlt] at hc ⊢
                    exact HX.out.2 q hq hc
                  · exact HR.out.2.2 i (by omega) q hq hc⟩
                go_wp2
                refine ⟨⟨m + 1, by omega, by go_num, HF⟩, by simp [intOf]; omega⟩
          · rw [decide_eq_false hen] at EG
            have RR : Hid (goodSv s t l = false) := hide (gsv_no (fun c => hen (by rw [← hea.out]; exact c.eng k hlt)))
            clear hen
            go_wp2_with fail
            rw [← hw3]
            refine EG.out.mono ?_
            rintro e w4 ⟨rfl, hb4⟩
            have HB4 := hide (HB0.out.trans (hb4.mono HB0.out.size))
            clear hb4 hw3 c0' c1' c2' EG
            go_wp2
            go_ret
            exact ⟨by rw [RR.out]; rfl, HB4.out⟩
        · obtain rfl : k = l.length := by omega
          have hBw := HB.out.size
          have HB0 := hide (HB.out.trans (HR.out.1.mono hBw))
          have TX := hide (textsS (t := t) (HH.out.later HB0.out) HM.out HG.out h60 (fun i hi => by have := (HR.out.2.1 i hi).2.2; rwa [eAt_eq hi] at this))
          have HCr := HC.out.later HR.out.1
          have k0 := HCr.cell 0 rfl
          have k1 := HCr.cell 1 rfl
          have k2 := HCr.cell 2 rfl
          simp only [List.getElem_toArray, List.getElem_cons_succ, List.getElem_cons_zero] at k0 k1 k2
          have HC0 := hide HCr
          clear HCr
          go_wp2_with fail
          refine TX.out.mono ?_
          rintro e w2 ⟨hy, hn, hb2⟩
          have HB2 := hide (HB0.out.trans (hb2.mono HB0.out.size))
          have q1 := (HC0.out.later hb2).cell 1 rfl
          simp only [List.getElem_toArray, List.getElem_cons_succ, List.getElem_cons_zero] at q1
          by_cases hf : fitK s l l.length
          · obtain ⟨x, rfl, hx⟩ := hy hf
            obtain ⟨gx, cx, rfl, x1, x2, -, x3, x4, -⟩ := own_cat hx (by rw [vtk_len]; omega)
            have z0 := x4 l.length (.string (tx s l l.length)) (by unfold encSt; rw [List.getElem?_map, vtk_at s l (Nat.le_refl _)]; rfl)
            simp only [vtk_len] at x1 ⊢
            have hi1 : ((l.length + 1 : Nat) : Int) - 1 = (l.length : Int) := by omega
            have RR : Hid (goodSv s t l = ((tx s l l.length).toList == t.toList)) := hide (by
              by_cases e : tx s l l.length = t
              · rw [strSame e]; exact gsv_yes ⟨HG.out, h60, HR.out.2.1, hf, HR.out.2.2, e⟩
              · rw [strOther e]; exact gsv_no (fun c => e c.tx))
            obtain ⟨T, hT⟩ : ∃ T, tx s l l.length = T := ⟨_, rfl⟩
            rw [hT] at z0 RR
            clear hy hn hx x4 hb2 TX hf hT k0 k1 k2
            go_wp2_with fail
            go_quiet (fail)
            go_wp2
            go_ret
            exact ⟨by rw [RR.out]; rfl, HB2.out.trans ⟨rfl, rfl, rfl, Nat.le_refl _, fun _ _ => rfl⟩⟩
          · obtain rfl := hn hf
            have RR : Hid (goodSv s t l = false) := hide (gsv_no (fun c => hf c.fit))
            clear hy hn hb2 TX hf k0 k1 k2
            go_wp2_with fail
            go_quiet (fail)
            go_wp2
            go_ret
            exact ⟨by rw [RR.out]; rfl, HB2.out.trans ⟨rfl, rfl, rfl, Nat.le_refl _, fun _ _ => rfl⟩⟩
    · have d60 : decide (60 < (l.length : Int)) = true := by rw [decide_eq_true_iff]; omega
      have RR : Hid (goodSv s t l = false) := hide (gsv_no (fun c => h60 c.len))
      rw [RR.out]
      have HB := hide hb1
      have HC := hide cb1
      clear h hE hm hb1 cb1 hgs RR
      go_enter Tryd.func128, Tryd.ntmps128
      go_wp2_with fail
      rw [← hw1]
      refine (GT.out _).mono ?_
      rintro e w2 ⟨rfl, hw2⟩
      obtain rfl := hw2.symm
      have c2 := HC.out.cell 2 rfl
      simp only [List.getElem_toArray, List.getElem_cons_succ, List.getElem_cons_zero] at c2
      clear hw1
      go_wp2
      go_ret
      exact ⟨rfl, HB.out⟩
end Go.Proofs.YtkjioadmebkaoaaDoor

set_option linter.unusedVariables false
namespace Go.Proofs.YtkjioadmebkaoaaDoor
open Go.RowKit
open Doc1

set_option maxHeartbeats 2000000 in
theorem strClone_any (s : ByteArray) (w : World) (hs : s.size ≤ 1048576) :
    Calls Tryd.prog 119 #[.string s] w fun e w' => e = .returned (.string s) ∧ Below w.heap.size w w' := by
  have H := hide (Tryd.stringslite_Clone s w (by omega))
  go_enter Tryd.func119, Tryd.ntmps119
  go_wp2_with (go_at_call 167; refine H.out.mono ?_; rintro e w' ⟨rfl, hb⟩)
  go_ret
  exact ⟨rfl, hb⟩

set_option maxHeartbeats 2000000 in
theorem isClient_any (x : Int) (w : World) :
    Calls Tryd.prog 202 #[.int .i64 x] w fun e w' => e = .returned (.bool (decide (0 ≤ x ∧ x ≤ 9))) ∧ w' = w := by
  by_cases h1 : 0 ≤ x
  · by_cases h2 : x ≤ 9
    · rw [decide_eq_true ⟨h1, h2⟩]
      go_enter Tryd.func202, Tryd.ntmps202
      go_wp2
      go_ret
      exact ⟨rfl, rfl⟩
    · rw [decide_eq_false (fun c => h2 c.2)]
      go_enter Tryd.func202, Tryd.ntmps202
      go_wp2
      go_ret
      exact ⟨rfl, rfl⟩
  · rw [decide_eq_false (fun c => h1 c.1)]
    go_enter Tryd.func202, Tryd.ntmps202
    go_wp2
    go_ret
    exact ⟨rfl, rfl⟩

set_option maxRecDepth 100000 in
set_option maxHeartbeats 2000000 in
theorem isEntry_any {w : World} {aw : Option Addr} {g cap : Nat} {l : List Pt} (x s : Int) (h : Pin w aw g cap l) (hT : Tab w) :
    Calls Tryd.prog 180 #[.agg #[.int .i64 x, .int .i64 s, .slice aw l.length cap]] w fun e w' => e = .returned (.bool (decide (enG ⟨x, s, l⟩))) ∧ Below w.heap.size w w' := by
  have hb : Below w.heap.size w (w.alloc (.cells #[.int .i64 x, .int .i64 s, .slice aw l.length cap] 191)) := (Below.refl _ _).alloc (Nat.le_refl _) _
  have G := hide (goodOpI (h.later hb) (hT.below hb))
  have HB := hide hb
  have J := hide (fun w => isClient_any x w)
  clear h hb hT
  obtain ⟨R, hR⟩ : ∃ R, R = decide (enG ⟨x, s, l⟩) := ⟨_, rfl⟩
  rw [← hR]
  have HR := hide hR
  clear hR
  by_cases h1 : 0 ≤ x ∧ x ≤ 9
  · rw [decide_eq_true h1] at J
    by_cases h2 : 1 ≤ s
    · by_cases h3 : s ≤ 1000
      · have RR : Hid (R = goodO l) := hide (by
          rw [HR.out]
          cases hg : goodO l with
          | true => exact decide_eq_true ⟨h1, ⟨h2, h3⟩, hg⟩
          | false => exact decide_eq_false (fun c => by have := c.2.2; simp only at this; rw [hg] at this; cases this))
        rw [RR.out]
        clear HR RR h1
        go_enter Tryd.func180, Tryd.ntmps180
        go_wp2_with (first | (go_at_call 202; refine (J.out _).mono ?_; rintro e w' ⟨rfl, hw⟩; replace hw := hw.symm; subst hw) | (go_at_call 182; refine G.out.mono ?_; rintro e w2 ⟨rfl, hb2⟩))
        go_ret
        exact ⟨rfl, HB.out.trans (hb2.mono HB.out.size)⟩
      · have RR : Hid (R = false) := hide (by rw [HR.out]; exact decide_eq_false (fun c => h3 c.2.1.2))
        rw [RR.out]
        clear HR RR h1
        go_enter Tryd.func180, Tryd.ntmps180
        go_wp2_with (first | (go_at_call 202; refine (J.out _).mono ?_; rintro e w' ⟨rfl, hw⟩; replace hw := hw.symm; subst hw))
        go_ret
        exact ⟨rfl, HB.out⟩
    · have RR : Hid (R = false) := hide (by rw [HR.out]; exact decide_eq_false (fun c => h2 c.2.1.1))
      rw [RR.out]
      clear HR RR h1
      go_enter Tryd.func180, Tryd.ntmps180
      go_wp2_with (first | (go_at_call 202; refine (J.out _).mono ?_; rintro e w' ⟨rfl, hw⟩; replace hw := hw.symm; subst hw))
      go_ret
      exact ⟨rfl, HB.out⟩
  · rw [decide_eq_false h1] at J
    have RR : Hid (R = false) := hide (by rw [HR.out]; exact decide_eq_false (fun c => h1 c.1))
    rw [RR.out]
    clear HR RR h1
    go_enter Tryd.func180, Tryd.ntmps180
    go_wp2_with (first | (go_at_call 202; refine (J.out _).mono ?_; rintro e w' ⟨rfl, hw⟩; replace hw := hw.symm; subst hw))
    go_ret
    exact ⟨rfl, HB.out⟩

/-- The table of the last Seqs, in a block of its own. -/
structure LT (w : World) (l : List En) (k : Nat) (wr : World) : Prop where
  c : ∀ j : Nat, j < 10 → wr.cell? ⟨w.heap.size, j, none⟩ = some (.int .i64 (lastS l (j : Int) k))
  fz : ∀ j, wr.frozen? ⟨w.heap.size, j, none⟩ = false
  lt : w.heap.size < wr.heap.size
  below : Below w.heap.size w wr
theorem LT.later {w wr w2 : World} {l : List En} {k : Nat} (h : LT w l k wr) (hb : Below wr.heap.size wr w2) : LT w l k w2 :=
  ⟨fun j hj => (World.cell?_of_block (a := ⟨w.heap.size, j, none⟩) (hb.block _ h.lt)).trans (h.c j hj), fun j => by rw [World.frozen?_of_block (a := ⟨w.heap.size, j, none⟩) (hb.block _ h.lt)]; exact h.fz j, Nat.lt_of_lt_of_le h.lt hb.size, h.below.trans (hb.mono h.below.size)⟩
theorem LT.put {w wr : World} {l : List En} {k c : Nat} {x : Int} (h : LT w l k wr) (hc : c < 10) (h1 : (eAt l k).cl = (c : Int)) (h2 : (eAt l k).sq = x) : LT w l (k + 1) (wr.setCell ⟨w.heap.size, c, none⟩ (.int .i64 x)) where
  c := fun j hj => by
    by_cases e : j = c
    · subst e
      rw [World.cell?_setCell_same _ _ _ (h.c j hj)]
      unfold lastS
      rw [if_pos h1, h2]
    · rw [World.cell?_setCell_other _ _ _ _ (fun c => e (Addr.mk.inj c).2.1.symm)]
      unfold lastS
      rw [if_neg (by rw [h1]; omega)]
      exact h.c j hj
  fz := fun j => by rw [World.frozen?_setCell]; exact h.fz j
  lt := by simpa [World.setCell] using h.lt
  below := h.below.setCell (Nat.le_refl _) _

open Classical in
set_option maxRecDepth 100000 in
set_option maxHeartbeats 4000000 in
theorem seqsRise_any {S : Nat → Prop} {w : World} {v : Value} {l : List En} (h : ER S w v l) (hl : l.length ≤ 60) (hg : engK l l.length) :
    Calls Tryd.prog 181 #[v] w fun e w' => e = .returned (.bool (decide (riK l l.length))) ∧ Below w.heap.size w w' := by
  obtain ⟨a, cap, g, off, vs, rfl, hE⟩ := h.ein
  have HE := hide hE
  have HG := hide hg
  clear h hE hg
  obtain ⟨R, hR⟩ : ∃ R, R = decide (riK l l.length) := ⟨_, rfl⟩
  rw [← hR]
  have HR := hide hR
  clear hR
  go_enter Tryd.func181, Tryd.ntmps181
  have L0 : Hid (LT w l 0 (w.alloc (.cells #[.int .i64 0, .int .i64 0, .int .i64 0, .int .i64 0, .int .i64 0, .int .i64 0, .int .i64 0, .int .i64 0, .int .i64 0, .int .i64 0] 266))) := hide ⟨fun j hj => by
      rw [cell_of_row _ w.heap.size j _ _ (0, 0) (heap_alloc_new w _)]
      have : j = 0 ∨ j = 1 ∨ j = 2 ∨ j = 3 ∨ j = 4 ∨ j = 5 ∨ j = 6 ∨ j = 7 ∨ j = 8 ∨ j = 9 := by omega
      rcases this with rfl | rfl | rfl | rfl | rfl | rfl | rfl | rfl | rfl | rfl <;> rfl, fun j => World.frozen?_alloc_new _ _ _ _, by simp, (Below.refl _ _).alloc (Nat.le_refl _) _⟩
  go_wp2
  go_loopw [8] (fun i wr => ∃ k : Nat, k ≤ l.length ∧ i = .int .i64 k ∧ Hid (LT w l k wr ∧ riK l k)) (fun i _ => l.length - (intOf i).toNat)
  case atStart => exact ⟨0, by omega, rfl, hide ⟨L0.out, fun i hi => by omega⟩⟩
  case round =>
    obtain ⟨k, hk, rfl, HX⟩ := hrel
    by_cases hlt : k < l.length
    · obtain ⟨rfl, hc1, hc2, hd0⟩ := HE.out (by omega)
      have hd := hd0.later HX.out.1.below
      have c2 := hd.c k hlt
      obtain ⟨c0, c1⟩ := hd.ua k hlt (Nat.zero_le _)
      obtain ⟨ax, cx, ex⟩ := (hd.op k hlt (Nat.zero_le _)).shp
      rw [ex] at c2
      have hen := HG.out k hlt
      have hea := eAt_eq hlt
      rw [hea] at hen
      obtain ⟨⟨e1, e2⟩, ⟨e3, e4⟩, -⟩ := hen
      obtain ⟨c, hc⟩ : ∃ c : Nat, l[k].cl = (c : Int) := ⟨l[k].cl.toNat, by omega⟩
      have hc10 : c < 10 := by omega
      obtain ⟨X, hX⟩ : ∃ X, X = l[k].sq := ⟨_, rfl⟩
      rw [hc] at c0
      rw [← hX] at c1 e3 e4
      have hri := ri_succ HX.out.2 (by rw [hea, ← hX]; exact e3)
      rw [hea, hc, ← hX] at hri
      obtain ⟨Y, hY⟩ : ∃ Y, Y = lastS l (c : Int) k := ⟨_, rfl⟩
      rw [← hY] at hri
      have hLT : Hid (∀ o : Obj, LT w l k (wr.alloc o)) := hide (fun o => HX.out.1.later ((Below.refl _ _).alloc (Nat.le_refl _) o))
      have t0 : ∀ o : Obj, (wr.alloc o).cell? ⟨w.heap.size, c, none⟩ = some (.int .i64 Y) := fun o => by rw [hY]; exact (hLT.out o).c c hc10
      have t1 : ∀ o : Obj, (wr.alloc o).frozen? ⟨w.heap.size, c, none⟩ = false := fun o => (hLT.out o).fz c
      have HEA := hide hea
      have HCc := hide hc
      have HXx := hide hX
      clear hd hd0 ex hea hc hX hY
      by_cases hle : X ≤ Y
      · have RR : Hid (R = false) := hide (by
          rw [HR.out]
          apply decide_eq_false
          intro q
          have := hri.1 (fun i hi => q i (by omega))
          omega)
        clear hri
        go_wp2_with fail
        go_quiet (fail)
        go_wp2
        go_ret
        exact ⟨by rw [RR.out]; rfl, (hLT.out _).below.trans ⟨rfl, rfl, rfl, Nat.le_refl _, fun _ _ => rfl⟩⟩
      · have HRI := hide (hri.2 (by omega))
        clear hri
        go_wp2_with fail
        go_quiet (fail)
        go_wp2
        exact ⟨⟨k + 1, by omega, by go_num, hide ⟨((hLT.out _).later (w2 := World.drewN (wr.alloc _) nq) ⟨rfl, rfl, rfl, Nat.le_refl _, fun _ _ => rfl⟩).put hc10 (by rw [HEA.out, HCc.out]) (by rw [HEA.out, ← HXx.out]), HRI.out⟩⟩, by simp [intOf]; omega⟩
    · obtain rfl : k = l.length := by omega
      have RR : Hid (R = true) := hide (by rw [HR.out]; exact decide_eq_true HX.out.2)
      have HB := hide HX.out.1.below
      go_wp2
      go_ret
      exact ⟨by rw [RR.out]; rfl, HB.out⟩

/-- What versionsOf tells. -/
def VPost (s t : ByteArray) (l : List En) (w : World) (e : Ending) (w' : World) : Prop :=
  ∃ x, e = .returned (.tuple #[x, .bool (goodSv s t l)]) ∧ (goodSv s t l = true → SOwn w' w.heap.size x (vtk s l l.length)) ∧ (goodSv s t l = false → x = .slice none 0 0) ∧ Below w.heap.size w w'

open Classical in
set_option maxRecDepth 100000 in
set_option maxHeartbeats 8000000 in
theorem versionsI {S : Nat → Prop} {w : World} {v : Value} {s t : ByteArray} {l : List En} (h : ER S w v l) (hm : SmE l) (hss : s.size ≤ 1048576) (hT : Tab w) :
    Calls Tryd.prog 135 #[.agg #[.string s, .string t, v]] w (VPost s t l w) := by
  obtain ⟨a, cap, g, off, vs, rfl, hE⟩ := h.ein
  obtain ⟨i0, hi0, hz0, hz1, hz2⟩ := info_parts Tryd.infoStr
  obtain ⟨w1, hw1⟩ : ∃ w1, w1 = w.alloc (.cells #[.string s, .string t, .slice a l.length cap] 79) := ⟨_, rfl⟩
  have hb1 : Below w.heap.size w w1 := by rw [hw1]; exact (Below.refl _ _).alloc (Nat.le_refl _) _
  have cb1 : CB w1 w.heap.size #[.string s, .string t, .slice a l.length cap] := by rw [hw1]; exact CB.new _ _ _
  have GT := hide (goodTextI_any s w1 hss (hT.below hb1))
  have hlM := hm.1
  have hs1 : w1.heap.size = w.heap.size + 1 := by rw [hw1]; simp
  unfold VPost
  cases hgs : good s.data.toList with
  | false =>
    have RR : Hid (goodSv s t l = false) := hide (gsv_no (fun c => by have := c.st; rw [hgs] at this; cases this))
    rw [RR.out]
    rw [hgs] at GT
    have HB := hide hb1
    clear h hE hm hb1 cb1 hgs RR hT
    go_enter Tryd.func135, Tryd.ntmps135
    go_wp2_with fail
    rw [← hw1]
    refine GT.out.mono ?_
    rintro e w2 ⟨rfl, hw2⟩
    obtain rfl := hw2.symm
    clear hw1
    go_wp2
    go_ret2
    exact ⟨_, rfl, (fun c => by cases c), fun _ => rfl, HB.out⟩
  | true =>
    rw [hgs] at GT
    by_cases h60 : l.length ≤ 60
    · have d60 : decide (60 < (l.length : Int)) = false := by rw [decide_eq_false_iff_not]; omega
      have HH := hide h
      have HE := hide hE
      have HM := hide hm
      have HG := hide hgs
      have HB := hide hb1
      have HC := hide cb1
      have HTb := hide hT
      have CL := hide (strClone_any s w1 hss)
      have c0 := cb1.cell 0 rfl
      have c2 := cb1.cell 2 rfl
      simp only [List.getElem_toArray, List.getElem_cons_succ, List.getElem_cons_zero] at c0 c2
      clear h hE hm hb1 cb1 hgs hT
      go_enter Tryd.func135, Tryd.ntmps135
      go_wp2_with fail
      rw [← hw1]
      refine GT.out.mono ?_
      rintro e w2 ⟨rfl, hw2⟩
      obtain rfl := hw2.symm
      clear hw1 GT
      go_wp2_with fail
      refine CL.out.mono ?_
      rintro e w2 ⟨rfl, hb2⟩
      have HC2 := hide (HC.out.later hb2)
      have HB2 := hide (HB.out.trans (hb2.mono HB.out.size))
      have k2 := fun o : Obj => (HC2.out.later ((Below.refl _ _).alloc (Nat.le_refl _) o)).cell 2 rfl
      simp only [List.getElem_toArray, List.getElem_cons_succ, List.getElem_cons_zero] at k2
      have hw2s : w.heap.size < w2.heap.size := by have := hb2.size; omega
      have O0 : Hid (SOwn (w2.alloc (.cells #[.string s] 9)) w.heap.size (.slice (some ⟨w2.heap.size, 0, none⟩) 1 1) (vtk s l 0)) := hide ((own_newS w2 s).mono (by omega))
      have HB3 : Hid (Below w.heap.size w (w2.alloc (.cells #[.string s] 9))) := hide (HB2.out.alloc (by omega) _)
      have HC3 : Hid (CB (w2.alloc (.cells #[.string s] 9)) w.heap.size #[.string s, .string t, .slice a l.length cap]) := hide (HC2.out.later ((Below.refl _ _).alloc (Nat.le_refl _) _))
      clear hb2 c0 c2 CL HC2 HB2
      go_wp2
      go_loopw [4, 5, 27] (fun tt x i wr => ∃ k : Nat, k ≤ l.length ∧ i = .int .i64 k ∧ tt = .string (tx s l k) ∧ ∃ v0, v0 = x ∧ Hid (SOwn wr (w.heap.size + 1) v0 (vtk s l k) ∧ Below w.heap.size w wr ∧ fitK s l k ∧ engK l k ∧ CB wr w.heap.size #[.string s, .string t, .slice a l.length cap])) (fun _ _ i _ => l.length - (intOf i).toNat)
      case atStart => exact ⟨0, by omega, rfl, rfl, _, rfl, hide ⟨(own_newS w2 s).mono (by omega), HB3.out, fun i hi => by omega, fun i hi => by omega, HC3.out⟩⟩
      case round =>
        obtain ⟨k, hk, rfl, rfl, x, rfl, HR⟩ := hrel
        have hBw := HR.out.2.1.size
        by_cases hlt : k < l.length
        · obtain ⟨rfl, hc1, hc2, hd0⟩ := HE.out (by omega)
          have hd := hd0.later HR.out.2.1
          have c2 := hd.c k hlt
          obtain ⟨c0, c1⟩ := hd.ua k hlt (Nat.zero_le _)
          obtain ⟨aw, gi, ci, ev, hp⟩ := hd.pin HM.out k hlt
          rw [ev] at c2
          have hgt := tx_good HG.out k HR.out.2.2.1
          have hgsz := good_sz hgt
          obtain ⟨w3, hw3⟩ : ∃ w3, w3 = wr.alloc (.cells #[.int .i64 l[k].cl, .int .i64 l[k].sq, .slice aw l[k].op.length ci] 191) := ⟨_, rfl⟩
          have hwa : Below wr.heap.size wr w3 := by rw [hw3]; exact (Below.refl _ _).alloc (Nat.le_refl _) _
          have cbx : CB w3 wr.heap.size #[.int .i64 l[k].cl, .int .i64 l[k].sq, .slice aw l[k].op.length ci] := by rw [hw3]; exact CB.new _ _ _
          have tabW : Tab w3 := HTb.out.below (HR.out.2.1.trans (hwa.mono hBw))
          have AP := hide (applyI (tx s l k) (hp.later hwa) tabW (by omega))
          have EG : Hid (∀ w', Below w3.heap.size w3 w' → _) := hide (fun w' hb => isEntry_any l[k].cl l[k].sq ((hp.later hwa).later hb) (tabW.below hb))
          have HO3 : Hid (SOwn w3 (w.heap.size + 1) x (vtk s l k)) := hide (own_below HR.out.1 hwa)
          have HB3 : Hid (Below w.heap.size w w3) := hide (HR.out.2.1.trans (hwa.mono hBw))
          have HC3 := hide (HR.out.2.2.2.2.later hwa)
          have HBX := hide cbx
          have hea : Hid (eAt l k = ⟨l[k].cl, l[k].sq, l[k].op⟩) := hide (eAt_eq hlt)
          clear hd hd0 hp ev hwa cbx tabW hgt
          cases hok : (aplO l[k].op (tx s l k)).2 with
          | false =>
            have RR : Hid (goodSv s t l = false) := hide (gsv_no (fun q => by have := q.fit k hlt; rw [hea.out, hok] at this; cases this))
            rw [hok] at AP
            clear hok
            go_wp2_with fail
            rw [← hw3]
            refine AP.out.mono ?_
            rintro e w4 ⟨rfl, hb4⟩
            have HB4 := hide (HB3.out.trans (hb4.mono HB3.out.size))
            clear hb4 hw3 c0 c1 c2 AP
            go_wp2
            go_ret2
            exact ⟨_, by rw [RR.out]; rfl, (fun c => by rw [RR.out] at c; cases c), fun _ => rfl, HB4.out⟩
          | true =>
            have hfs : Hid (fitK s l (k + 1)) := hide (fit_succ HR.out.2.2.1 (by rw [hea.out]; exact hok))
            have htx : Hid ((aplO l[k].op (tx s l k)).1 = tx s l (k + 1)) := hide (by rw [tx_succ, hea.out])
            rw [hok, htx.out] at AP
            clear hok htx
            obtain ⟨T, hTx⟩ : ∃ T, tx s l (k + 1) = T := ⟨_, rfl⟩
            rw [hTx] at AP
            have HT := hide hTx
            clear hTx
            go_wp2_with fail
            rw [← hw3]
            refine AP.out.mono ?_
            rintro e w4 ⟨rfl, hb4⟩
            have HB4 := hide (HB3.out.trans (hb4.mono HB3.out.size))
            have HO4 : Hid (SOwn w4 (w.heap.size + 1) x (vtk s l k)) := hide (own_below HO3.out hb4)
            have HC4 := hide (HC3.out.later hb4)
            have bx4 := HBX.out.later hb4
            have y0 := bx4.cell 0 rfl
            have y1 := bx4.cell 1 rfl
            have y2 := bx4.cell 2 rfl
            simp only [List.getElem_toArray, List.getElem_cons_succ, List.getElem_cons_zero] at y0 y1 y2
            have EG4 := hide (EG.out w4 hb4)
            have hB4 := HB4.out.size
            clear hb4 hw3 c0 c1 c2 AP EG bx4 HB3 HO3 HC3 HBX
            by_cases hen : enG ⟨l[k].cl, l[k].sq, l[k].op⟩
            · rw [decide_eq_true hen] at EG4
              have hes : Hid (engK l (k + 1)) := hide (eng_succ HR.out.2.2.2.1 (by rw [hea.out]; exact hen))
              clear hen HR
              go_wp2_with fail
              refine EG4.out.mono ?_
              rintro e w5 ⟨rfl, hb5⟩
              have HB5 := hide (HB4.out.trans (hb5.mono HB4.out.size))
              have HO5 : Hid (SOwn w5 (w.heap.size + 1) x (vtk s l k)) := hide (own_below HO4.out hb5)
              have HC5 := hide (HC4.out.later hb5)
              have hB5 : w.heap.size + 1 ≤ w5.heap.size := HC5.out.lt
              have hvl := vtk_len s l k
              clear hb5 y0 y1 y2 EG4 HB4 HO4 HC4
              go_wp2_with (at_builtin; go_loud (refine wpList_append_loc _ rfl _ _ 63 rfl (w.heap.size + 1) 9 i0 (.string ⟨#[]⟩) 1 16 Tryd.underlying63 hi0 hz0 hz1 hz2 rfl (by decide) _ _ _ rfl (World.ownsRow.alloc HO5.out _) ⟨w5.heap.size, 0, none⟩ 1 1 [.string T] rfl rfl (World.news_of_block (cs := #[.string T]) (t := 9) (fr := (0, 0)) (heap_alloc_new w5 _)) (by simp [Value.oneCell']) (by unfold maxLen; omega) (by omega) (by simp; omega) ?_); intro v6 w6 own6 grow6 loc6; have HR6 : Hid (SOwn w6 (w.heap.size + 1) v6 (vtk s l (k + 1)) ∧ Below (w.heap.size + 1) w5 w6) := hide ⟨(by rw [vtk_succ, HT.out]; exact SOwn.app1 own6), below_append (Below.refl _ _) HO5.out (by omega) grow6⟩; clear own6 grow6 loc6 HO5)
              refine ⟨⟨k + 1, by omega, by go_num, by rw [HT.out], v6, rfl, hide ⟨HR6.out.1, HB5.out.trans (HR6.out.2.mono (by omega)), hfs.out, hes.out, HC5.out.block (HR6.out.2.block _ (by omega))⟩⟩, by simp [intOf]; omega⟩
            · rw [decide_eq_false hen] at EG4
              have RR : Hid (goodSv s t l = false) := hide (gsv_no (fun q => hen (by rw [← hea.out]; exact q.eng k hlt)))
              clear hen
              go_wp2_with fail
              refine EG4.out.mono ?_
              rintro e w5 ⟨rfl, hb5⟩
              have HB5 := hide (HB4.out.trans (hb5.mono HB4.out.size))
              clear hb5 y0 y1 y2 EG4
              go_wp2
              go_ret2
              exact ⟨_, by rw [RR.out]; rfl, (fun c => by rw [RR.out] at c; cases c), fun _ => rfl, HB5.out⟩
        · obtain rfl : k = l.length := by omega
          have k1 := HR.out.2.2.2.2.cell 1 rfl
          have k2 := HR.out.2.2.2.2.cell 2 rfl
          simp only [List.getElem_toArray, List.getElem_cons_succ, List.getElem_cons_zero] at k1 k2
          have SR := hide (seqsRise_any (HH.out.later HR.out.2.1) h60 HR.out.2.2.2.1)
          by_cases htt : tx s l l.length = t
          · have hst := strSame htt
            by_cases hri : riK l l.length
            · have RR : Hid (goodSv s t l = true) := hide (gsv_yes ⟨HG.out, h60, HR.out.2.2.2.1, HR.out.2.2.1, hri, htt⟩)
              rw [decide_eq_true hri] at SR
              obtain ⟨T, hTx⟩ : ∃ T, tx s l l.length = T := ⟨_, rfl⟩
              rw [hTx] at hst ⊢
              clear hri htt hTx
              go_wp2_with fail
              refine SR.out.mono ?_
              rintro e w4 ⟨rfl, hb4⟩
              have HF : Hid (SOwn w4 w.heap.size x (vtk s l l.length) ∧ Below w.heap.size w w4) := hide ⟨own_mono (own_below HR.out.1 hb4) (by omega), HR.out.2.1.trans (hb4.mono hBw)⟩
              clear hb4 SR k1 k2
              go_wp2
              go_ret2
              exact ⟨_, by rw [RR.out]; rfl, fun _ => HF.out.1, (fun c => by rw [RR.out] at c; cases c), HF.out.2⟩
            · have RR : Hid (goodSv s t l = false) := hide (gsv_no (fun q => hri q.ri))
              rw [decide_eq_false hri] at SR
              obtain ⟨T, hTx⟩ : ∃ T, tx s l l.length = T := ⟨_, rfl⟩
              rw [hTx] at hst ⊢
              clear hri htt hTx
              go_wp2_with fail
              refine SR.out.mono ?_
              rintro e w4 ⟨rfl, hb4⟩
              have HF := hide (HR.out.2.1.trans (hb4.mono hBw))
              clear hb4 SR k1 k2
              go_wp2
              go_ret2
              exact ⟨_, by rw [RR.out]; rfl, (fun c => by rw [RR.out] at c; cases c), fun _ => rfl, HF.out⟩
          · have hst := strOther htt
            have RR : Hid (goodSv s t l = false) := hide (gsv_no (fun q => htt q.tx))
            have HF := hide HR.out.2.1
            obtain ⟨T, hTx⟩ : ∃ T, tx s l l.length = T := ⟨_, rfl⟩
            rw [hTx] at hst ⊢
            clear htt hTx
            go_wp2
            go_ret2
            exact ⟨_, by rw [RR.out]; rfl, (fun c => by rw [RR.out] at c; cases c), fun _ => rfl, HF.out⟩
    · have d60 : decide (60 < (l.length : Int)) = true := by rw [decide_eq_true_iff]; omega
      have RR : Hid (goodSv s t l = false) := hide (gsv_no (fun c => h60 c.len))
      rw [RR.out]
      have HB := hide hb1
      have c2 := cb1.cell 2 rfl
      simp only [List.getElem_toArray, List.getElem_cons_succ, List.getElem_cons_zero] at c2
      clear h hE hm hb1 cb1 hgs RR hT
      go_enter Tryd.func135, Tryd.ntmps135
      go_wp2_with fail
      rw [← hw1]
      refine GT.out.mono ?_
      rintro e w2 ⟨rfl, hw2⟩
      obtain rfl := hw2.symm
      clear hw1
      go_wp2
      go_ret2
      exact ⟨_, rfl, (fun c => by cases c), fun _ => rfl, HB.out⟩

end Go.Proofs.YtkjioadmebkaoaaDoor
