/- The plain mathematics of FnMarks: what is marked, what is cut, and how much is covered. Marks that are none at all: the contracts at a row that is nil. Marks that are none at all, and changes that are not good: the other contracts. Marks over rows of one's own, also where they are none. The drawing of marks. The drawings of MoveMarks and AddMark. Two rows of marks that are the same. -/
import Derived.Test.YtbooongkbninhaaDoorMarkWC
import Derived.Test.YtbooongkbninhaaDoorHeapZ
import Derived.Test.YtbooongkbninhaaDoorMmM
import Derived.Test.YtbooongkbninhaaDoorPlcN
import Derived.Test.YtbooongkbninhaaDoorAddSM
import Derived.Test.YtbooongkbninhaaDoorOwnM
import Derived.Test.YtbooongkbninhaaDoorDrwN
import Derived.Deep.Cut
import Derived.Laws.ResultCell
import Derived.BigQuiet
namespace Go.Proofs.YtbooongkbninhaaDoor
open Doc1

theorem good_of {l : List Mk} {size : Int} (hz : 0 ≤ size ∧ size ≤ 300) (hl : l.length ≤ 40) (hp : l.Pairwise (fun a b => mkLt a b = true)) (hk : ∀ m ∈ l, mkOk size m = true) : goodM l size = true := by
  have ht : mkTo l size l.length = true := by
    unfold mkTo
    rw [List.all_eq_true]
    intro i hi
    rw [List.mem_range] at hi
    cases i with
    | zero => rw [mkAt_zero hi]; exact hk _ (List.getElem_mem _)
    | succ j =>
      rw [mkAt_succ hi, hk _ (List.getElem_mem _)]
      exact List.pairwise_iff_getElem.1 hp j (j + 1) (by omega) hi (by omega)
  rw [goodM_all ht, decide_eq_true hz, decide_eq_true hl]
  rfl
theorem ok_parts {size : Int} {m : Mk} (h : mkOk size m = true) : isSt m.style = true ∧ 0 ≤ m.frm ∧ m.frm < m.to ∧ m.to ≤ size := by
  unfold mkOk at h
  simp only [Bool.and_eq_true, decide_eq_true_eq] at h
  exact h
theorem ok_of {size : Int} {m : Mk} (h : isSt m.style = true) (h1 : 0 ≤ m.frm) (h2 : m.frm < m.to) (h3 : m.to ≤ size) : mkOk size m = true := by
  unfold mkOk
  rw [h, decide_eq_true ⟨h1, h2, h3⟩]
  rfl
theorem ok_mg {size : Int} {m x : Mk} (h1 : mkOk size m = true) (h2 : mkOk size x = true) : mkOk size (mgM m x) = true := by
  obtain ⟨a1, a2, a3, a4⟩ := ok_parts h1
  obtain ⟨b1, b2, b3, b4⟩ := ok_parts h2
  refine ok_of a1 ?_ ?_ ?_
  · show 0 ≤ min m.frm x.frm; omega
  · show min m.frm x.frm < max m.to x.to; omega
  · show max m.to x.to ≤ size; omega
theorem addL_ok {size : Int} : ∀ (L : List Mk) (m : Mk), mkOk size m = true → (∀ x ∈ L, mkOk size x = true) → ∀ z ∈ addL L m, mkOk size z = true
  | [], m, hm, _, z, hz => by rw [addL, List.mem_singleton] at hz; rw [hz]; exact hm
  | x :: L, m, hm, hL, z, hz => by
    have hL' : ∀ y ∈ L, mkOk size y = true := fun y hy => hL y (by simp [hy])
    rw [addL] at hz
    split at hz
    · rcases List.mem_cons.1 hz with rfl | hz
      · exact hL z (by simp)
      · exact addL_ok L m hm hL' z hz
    · split at hz
      · rcases List.mem_cons.1 hz with rfl | hz
        · exact hm
        · exact hL z hz
      · exact addL_ok L (mgM m x) (ok_mg hm (hL x (by simp))) hL' z hz
/-- A mark that is added leaves marks good, where they are not too many. -/
theorem add_good {l : List Mk} {size : Int} {m : Mk} (h : goodM l size = true) (hm : mkOk size m = true) (hl : (addL l m).length ≤ 40) : goodM (addL l m) size = true := by
  obtain ⟨p1, p2⟩ := good_pw h
  exact good_of (goodM_size h) hl (addL_pw l m p1 (fun x hx => (ok_parts (p2 x hx)).2.2.1)) (addL_ok l m hm p2)
theorem addMs_ok {size : Int} : ∀ (n : Nat) (ms : List Mk), ms.length = n → (∀ x ∈ ms, x.frm < x.to → mkOk size x = true) → ∀ z ∈ addMs ms, mkOk size z = true
  | 0, ms, h, _, z, hz => by
    obtain rfl := List.length_eq_zero_iff.1 h
    cases hz
  | n + 1, ms, h, hs, z, hz => by
    obtain ⟨ms', m, rfl⟩ : ∃ ms' m, ms = ms' ++ [m] := ⟨ms.dropLast, ms.getLast (by intro c; rw [c] at h; cases h), (List.dropLast_concat_getLast _).symm⟩
    have ih := addMs_ok n ms' (by simpa using h) (fun x hx => hs x (by simp [hx]))
    rw [addMs_snoc] at hz
    unfold stepM at hz
    split at hz
    · rename_i c
      exact addL_ok _ m (hs m (by simp) c) ih z hz
    · exact ih z hz
theorem st_eq {a b : ByteArray} : (a.toList == b.toList) = true ↔ a = b := by
  rw [ByteArray.toList_eq, ByteArray.toList_eq, beq_iff_eq]
  exact ⟨fun h => ByteArray.ext (Array.toList_inj.1 h), fun h => by rw [h]⟩
theorem cov1_yes {st : ByteArray} {m : Mk} (h : m.style = st) : cov1 st m = m.to - m.frm := by unfold cov1; rw [if_pos (st_eq.2 h)]
theorem cov1_nn {st : ByteArray} {m : Mk} (h : m.frm < m.to) : 0 ≤ cov1 st m := by unfold cov1; split <;> omega
theorem covL_cons (st : ByteArray) (x : Mk) (l : List Mk) : covL st (x :: l) = cov1 st x + covL st l := by simp [covL]
theorem covL_nn {st : ByteArray} : ∀ (l : List Mk), (∀ m ∈ l, m.frm < m.to) → 0 ≤ covL st l
  | [], _ => by simp [covL]
  | x :: l, h => by
    rw [covL_cons]
    have := cov1_nn (st := st) (h x (by simp))
    have := covL_nn (st := st) l (fun m hm => h m (by simp [hm]))
    omega
theorem lt_same {a b : Mk} (h : mkLt a b = true) (hs : a.style = b.style) : a.to < b.frm := by
  unfold mkLt at h
  rw [if_pos (st_eq.2 hs)] at h
  exact of_decide_eq_true h
theorem cov_low {st : ByteArray} : ∀ (L : List Mk) (m : Mk) (b c : Int), L.Pairwise (fun a b => mkLt a b = true) → (∀ x ∈ L, x.frm < x.to) → m.frm < m.to → m.style = st → (∀ y ∈ L, y.style = st → b ≤ y.frm) → (c ≤ 0 ∨ (c ≤ b - m.frm ∧ c ≤ m.to - m.frm)) → covL st L + c ≤ covL st (addL L m)
  | [], m, b, c, _, _, hm, hs, _, hc => by
    rw [addL, covL_cons, cov1_yes hs]
    simp only [covL, List.map_nil, List.sum_nil]
    omega
  | x :: L, m, b, c, hp, hl, hm, hs, hb, hc => by
    rw [List.pairwise_cons] at hp
    have hl' : ∀ y ∈ L, y.frm < y.to := fun y hy => hl y (by simp [hy])
    have hx := hl x (by simp)
    rw [addL]
    split
    · have := cov_low L m b c hp.2 hl' hm hs (fun y hy => hb y (by simp [hy])) hc
      rw [covL_cons, covL_cons]; omega
    · rename_i c1
      split
      · rw [covL_cons st m, cov1_yes hs]; omega
      · rename_i c2
        obtain ⟨t1, t2, t3⟩ := touch (by simpa using c1) (by simpa using c2)
        have hxs : x.style = st := t1 ▸ hs
        have hbx := hb x (by simp) hxs
        have e1 : (mgM m x).frm = min m.frm x.frm := rfl
        have e2 : (mgM m x).to = max m.to x.to := rfl
        have := cov_low L (mgM m x) x.to (x.to - (mgM m x).frm) hp.2 hl' (by rw [e1, e2]; omega) hs (fun y hy hys => by have := lt_same (hp.1 y hy) (hxs.trans hys.symm); omega) (.inr ⟨by omega, by rw [e1, e2]; omega⟩)
        rw [covL_cons, cov1_yes hxs]
        rw [e1] at this
        omega
theorem cov_len {st : ByteArray} : ∀ (L : List Mk) (m : Mk), (∀ x ∈ L, x.frm < x.to) → m.frm < m.to → m.style = st → m.to - m.frm ≤ covL st (addL L m)
  | [], m, _, hm, hs => by rw [addL, covL_cons, cov1_yes hs]; simp [covL]
  | x :: L, m, hl, hm, hs => by
    have hl' : ∀ y ∈ L, y.frm < y.to := fun y hy => hl y (by simp [hy])
    have hx := hl x (by simp)
    rw [addL]
    split
    · have := cov_len L m hl' hm hs
      have := cov1_nn (st := st) hx
      rw [covL_cons]; omega
    · split
      · have := covL_nn (st := st) (x :: L) hl
        rw [covL_cons st m, cov1_yes hs]; omega
      · have e1 : (mgM m x).frm = min m.frm x.frm := rfl
        have e2 : (mgM m x).to = max m.to x.to := rfl
        have := cov_len L (mgM m x) hl' (by rw [e1, e2]; omega) hs
        rw [e1, e2] at this
        omega
theorem cov_up {st : ByteArray} : ∀ (L : List Mk) (m : Mk), (∀ x ∈ L, x.frm < x.to) → m.frm < m.to → m.style = st → covL st (addL L m) ≤ covL st L + (m.to - m.frm)
  | [], m, _, hm, hs => by rw [addL, covL_cons, cov1_yes hs]; simp [covL]
  | x :: L, m, hl, hm, hs => by
    have hl' : ∀ y ∈ L, y.frm < y.to := fun y hy => hl y (by simp [hy])
    have hx := hl x (by simp)
    rw [addL]
    split
    · have := cov_up L m hl' hm hs
      rw [covL_cons, covL_cons]; omega
    · rename_i c1
      split
      · rw [covL_cons st m, cov1_yes hs]; omega
      · rename_i c2
        obtain ⟨t1, t2, t3⟩ := touch (by simpa using c1) (by simpa using c2)
        have e1 : (mgM m x).frm = min m.frm x.frm := rfl
        have e2 : (mgM m x).to = max m.to x.to := rfl
        have := cov_up L (mgM m x) hl' (by rw [e1, e2]; omega) hs
        rw [e1, e2] at this
        rw [covL_cons, cov1_yes (t1 ▸ hs)]
        omega
/-- How much more is covered. -/
theorem cov_add {l : List Mk} {size : Int} {m : Mk} (h : goodM l size = true) (hm : mkOk size m = true) : covL m.style l ≤ covL m.style (addL l m) ∧ m.to - m.frm ≤ covL m.style (addL l m) ∧ covL m.style (addL l m) ≤ covL m.style l + (m.to - m.frm) := by
  obtain ⟨p1, p2⟩ := good_pw h
  have hl : ∀ x ∈ l, x.frm < x.to := fun x hx => (ok_parts (p2 x hx)).2.2.1
  have hm' := (ok_parts hm).2.2.1
  have := cov_low l m 0 0 p1 hl hm' rfl (fun y hy _ => (ok_parts (p2 y hy)).2.1) (.inl (Int.le_refl _))
  exact ⟨by omega, cov_len l m hl hm' rfl, cov_up l m hl hm' rfl⟩
/-- What is marked has the style. -/
theorem add_has {i : Int} : ∀ (L : List Mk) (m : Mk), m.frm ≤ i → i < m.to → ∃ z ∈ addL L m, z.style = m.style ∧ z.frm ≤ i ∧ i < z.to
  | [], m, h1, h2 => ⟨m, by simp [addL], rfl, h1, h2⟩
  | x :: L, m, h1, h2 => by
    rw [addL]
    split
    · obtain ⟨z, hz, r⟩ := add_has (i := i) L m h1 h2
      exact ⟨z, by simp [hz], r⟩
    · split
      · exact ⟨m, by simp, rfl, h1, h2⟩
      · have e1 : (mgM m x).frm = min m.frm x.frm := rfl
        have e2 : (mgM m x).to = max m.to x.to := rfl
        obtain ⟨z, hz, r1, r2⟩ := add_has (i := i) L (mgM m x) (by rw [e1]; omega) (by rw [e2]; omega)
        exact ⟨z, hz, r1, r2⟩
theorem sty_has {l : List Mk} {m : Mk} {i : Int} (h1 : m.frm ≤ i) (h2 : i < m.to) : m.style ∈ styL i (addL l m) := by
  obtain ⟨z, hz, r1, r2, r3⟩ := add_has l m h1 h2
  unfold styL
  rw [List.mem_map]
  exact ⟨z, List.mem_filter.2 ⟨hz, decide_eq_true ⟨r2, r3⟩⟩, r1⟩
/-- What is cut has it not. -/
theorem cut_mem {fr tt : Int} {st : ByteArray} {m z : Mk} (h : z ∈ cut1 fr tt st m) (hm : m.frm < m.to) : (z.style = m.style ∧ m.frm ≤ z.frm ∧ z.to ≤ m.to ∧ z.frm < z.to) ∧ ∀ i, fr ≤ i → i < tt → z.style = st → ¬ (z.frm ≤ i ∧ i < z.to) := by
  unfold cut1 at h
  split at h
  · rename_i c
    rw [List.mem_singleton] at h
    subst h
    refine ⟨⟨rfl, Int.le_refl _, Int.le_refl _, hm⟩, fun i h1 h2 hs hz => ?_⟩
    rcases c with c | c | c | c
    · rw [st_eq.2 hs] at c; cases c
    · omega
    · omega
    · omega
  · rename_i c
    have cs : m.style = st := by
      apply st_eq.1
      cases e : m.style.toList == st.toList with
      | true => rfl
      | false => exact absurd (.inl e) c
    rcases List.mem_append.1 h with h | h
    · split at h
      · rename_i c3
        rw [List.mem_singleton] at h
        subst h
        have c4 : ¬ m.to ≤ fr := fun e => c (.inr (.inl e))
        exact ⟨⟨cs.symm, Int.le_refl _, by show fr ≤ m.to; omega, c3⟩, fun i h1 h2 _ hz => by have := hz.2; simp only at this; omega⟩
      · cases h
    · split at h
      · rename_i c3
        rw [List.mem_singleton] at h
        subst h
        have c4 : ¬ tt ≤ m.frm := fun e => c (.inr (.inr (.inl e)))
        exact ⟨⟨cs.symm, by show m.frm ≤ tt; omega, Int.le_refl _, c3⟩, fun i h1 h2 _ hz => by have := hz.1; simp only at this; omega⟩
      · cases h
theorem cut1_pw {fr tt : Int} {st : ByteArray} {m : Mk} (h : fr ≤ tt) : (cut1 fr tt st m).Pairwise (fun a b => mkLt a b = true) := by
  unfold cut1
  split
  · exact List.pairwise_singleton _ _
  · rename_i c
    have c4 : ¬ fr = tt := fun e => c (.inr (.inr (.inr e)))
    split <;> split
    · refine List.Pairwise.cons (fun b hb => ?_) (List.pairwise_singleton _ _)
      have hb' := List.mem_singleton.1 hb
      subst hb'
      unfold mkLt
      rw [if_pos (st_eq.2 rfl)]
      exact decide_eq_true (by show fr < tt; omega)
    · exact List.pairwise_singleton _ _
    · exact List.pairwise_singleton _ _
    · exact List.Pairwise.nil
theorem lt_within {a b x y : Mk} (h : mkLt a b = true) (h1 : x.style = a.style) (h2 : x.to ≤ a.to) (h3 : y.style = b.style) (h4 : b.frm ≤ y.frm) : mkLt x y = true := by
  unfold mkLt at h ⊢
  rw [h1, h3]
  split at h
  · rename_i c
    rw [if_pos c]
    have := of_decide_eq_true h
    exact decide_eq_true (by omega)
  · rename_i c
    rw [if_neg c]; exact h
theorem cut_good {l : List Mk} {size fr tt : Int} {st : ByteArray} (h : goodM l size = true) (hf : fr ≤ tt) (hl : (cutL l fr tt st).length ≤ 40) : goodM (cutL l fr tt st) size = true := by
  obtain ⟨p1, p2⟩ := good_pw h
  have hk : ∀ x ∈ l, x.frm < x.to := fun x hx => (ok_parts (p2 x hx)).2.2.1
  refine good_of (goodM_size h) hl ?_ (fun z hz => ?_)
  · unfold cutL
    rw [List.pairwise_flatMap]
    refine ⟨fun m _ => cut1_pw hf, p1.imp_of_mem ?_⟩
    intro a b ha hb hab x hx y hy
    have q1 := (cut_mem hx (hk a ha)).1
    have q2 := (cut_mem hy (hk b hb)).1
    exact lt_within hab q1.1 q1.2.2.1 q2.1 q2.2.1
  · obtain ⟨m, hm, hz⟩ := List.mem_flatMap.1 hz
    obtain ⟨⟨q1, q2, q3, q4⟩, -⟩ := cut_mem hz (hk m hm)
    obtain ⟨a1, a2, a3, a4⟩ := ok_parts (p2 m hm)
    exact ok_of (by rw [q1]; exact a1) (by omega) q4 (by omega)
theorem sty_not {l : List Mk} {size fr tt i : Int} {st : ByteArray} (h : goodM l size = true) (h1 : fr ≤ i) (h2 : i < tt) : st ∉ styL i (cutL l fr tt st) := by
  intro c
  obtain ⟨p1, p2⟩ := good_pw h
  unfold styL at c
  rw [List.mem_map] at c
  obtain ⟨z, hz, hs⟩ := c
  rw [List.mem_filter] at hz
  obtain ⟨m, hm, hz1⟩ := List.mem_flatMap.1 hz.1
  exact (cut_mem hz1 (ok_parts (p2 m hm)).2.2.1).2 i h1 h2 hs (of_decide_eq_true hz.2)
/-- Marks stay good behind a change. -/
theorem mm_good {op : List Pt} {l : List Mk} (h : mmOk op l = true) : goodM (mmL op l) (mkL op) = true ∧ (mmL op l).length ≤ l.length := by
  have h40 := mm_small h
  unfold mmOk at h
  rw [Bool.and_eq_true] at h
  obtain ⟨hg, hl⟩ := h
  obtain ⟨p1, p2⟩ := good_pw hl
  obtain ⟨_, _, _, pw, ln⟩ := rp_all _ (l.map (mvM op)) rfl
  rw [List.length_map] at ln
  obtain ⟨-, ht, hm⟩ := goodO_le hg
  have hp := goodO_pk hg
  have hs0 := goodM_size hl
  have hmk : 0 ≤ mkL op := by
    have := (stL_sums op hp).2
    omega
  refine ⟨good_of ⟨hmk, hm⟩ h40 pw (addMs_ok _ _ rfl (fun x hx hlt => ?_)), ln⟩
  obtain ⟨m, hmm, rfl⟩ := List.mem_map.1 hx
  obtain ⟨a1, a2, a3, a4⟩ := ok_parts (p2 m hmm)
  refine ok_of a1 ?_ hlt ?_
  · show 0 ≤ mvA op m.frm true
    unfold mvA
    repeat' split
    all_goals omega
  · show mvA op m.to false ≤ mkL op
    unfold mvA
    split
    · simp only [Bool.false_eq_true, if_false]
      obtain ⟨n, hn⟩ : ∃ n : Nat, (n : Int) = tkL op := ⟨(tkL op).toNat, by omega⟩
      have h1 := (mvR_le op (n := m.to.toNat) (m := n) (by omega)).1
      have h2 := mvR_last hp hn
      have h3 : (mvR op n).1 ≤ (mvR op n).2 := by unfold mvR; simp
      omega
    · exact hmk
end Go.Proofs.YtbooongkbninhaaDoor

namespace Go.Proofs.YtbooongkbninhaaDoor
open Go.RowKit
open Doc1

theorem goodM_nil (size : Int) : goodM [] size = decide (0 ≤ size ∧ size ≤ 300) := by unfold goodM; simp [mkTo]

set_option maxRecDepth 100000 in
set_option maxHeartbeats 2000000 in
theorem goodMarksI_nil (av : Option Addr) (cv : Nat) (size : Int) (w : World) : Calls Tryd.prog 11 #[.slice av 0 cv, .int .i64 size] w fun e w' => e = .returned (.bool (goodM [] size)) ∧ w' = w := by
  rw [goodM_nil]
  by_cases h1 : size < 0
  · rw [decide_eq_false (by omega)]
    have d1 : decide (size < 0) = true := decide_eq_true h1
    go_enter Tryd.func11, Tryd.ntmps11
    go_wp2
    go_ret
    exact ⟨rfl, rfl⟩
  · have d1 : decide (size < 0) = false := decide_eq_false h1
    by_cases h2 : 300 < size
    · rw [decide_eq_false (by omega)]
      have d2 : decide (300 < size) = true := decide_eq_true h2
      go_enter Tryd.func11, Tryd.ntmps11
      go_wp2
      go_ret
      exact ⟨rfl, rfl⟩
    · rw [decide_eq_true (by omega)]
      have d2 : decide (300 < size) = false := decide_eq_false h2
      go_enter Tryd.func11, Tryd.ntmps11
      go_wp2
      go_loopw [20] (fun i wr => i = .int .i64 0 ∧ wr = w) (fun _ _ => 0)
      case atStart => exact ⟨rfl, rfl⟩
      case round =>
        obtain ⟨rfl, rfl⟩ := hrel
        go_wp2
        go_ret
        exact ⟨rfl, rfl⟩

set_option maxRecDepth 100000 in
set_option maxHeartbeats 2000000 in
theorem goodMarksS_nil (av : Option Addr) (cv : Nat) (size : Int) (w : World) : Calls Tryd.prog 30 #[.slice av 0 cv, .int .i64 size] w fun e w' => e = .returned (.bool (goodM [] size)) ∧ w' = w := by
  have I := hide (fun w1 => l1In_any size 0 300 w1)
  rw [goodM_nil]
  generalize decide (0 ≤ size ∧ size ≤ 300) = d at *
  go_enter Tryd.func30, Tryd.ntmps30
  go_wp2
  go_loopw [9] (fun i wr => i = .int .i64 0 ∧ wr = w) (fun _ _ => 0)
  case atStart => exact ⟨rfl, rfl⟩
  case round =>
    obtain ⟨rfl, rfl⟩ := hrel
    go_wp2_with fail
    refine (I.out _).mono ?_
    rintro e w' ⟨rfl, rfl⟩
    go_wp2
    go_ret
    exact ⟨rfl, rfl⟩

set_option maxRecDepth 100000 in
set_option maxHeartbeats 4000000 in
theorem addI_nil (size : Int) (m : Mk) (w : World) (hst : m.style.size ≤ 1048576) :
    Calls Tryd.prog 13 #[.slice none 0 0, .int .i64 size, .agg #[.int .i64 m.frm, .int .i64 m.to, .string m.style]] w (RsPost (goodM [] size && mkOk size m) (addL [] m) w) := by
  obtain ⟨y0, y1, y2⟩ := cellsE_new w (.int .i64 m.frm) (.int .i64 m.to) (.string m.style)
  have z0 := y0 34
  have z1 := y1 34
  have z2 := y2 34
  have hb0 : Below w.heap.size w (w.alloc (.cells #[.int .i64 m.frm, .int .i64 m.to, .string m.style] 34)) := (Below.refl _ _).alloc (Nat.le_refl _) _
  obtain ⟨W0, hW0⟩ : ∃ W0, w.alloc (.cells #[.int .i64 m.frm, .int .i64 m.to, .string m.style] 34) = W0 := ⟨_, rfl⟩
  rw [hW0] at z0 z1 z2 hb0
  have hs0 := hb0.size
  have hz0 : W0.heap.size = w.heap.size + 1 := by rw [← hW0]; simp
  have G := hide (goodMarksI_nil none 0 size W0)
  have I := fun w => isGood_any m size w hst
  unfold mrV at I
  replace I := hide I
  have HB0 := hide hb0
  clear y0 y1 y2 hb0
  cases hg : goodM [] size with
  | false =>
    rw [hg] at G
    have HN : Hid (∀ w', Below w.heap.size w w' → RsPost (false && mkOk size m) (addL [] m) w (.returned (.tuple #[.slice none 0 0, .bool false])) w') := hide (fun w' hb => rs_no rfl hb)
    clear hg
    go_enter Tryd.func13, Tryd.ntmps13
    go_wp2_with fail
    clear hW0
    refine G.out.mono ?_
    rintro e w1 ⟨rfl, hw⟩
    replace hw := hw.symm; subst hw
    go_wp2
    go_ret2
    exact HN.out _ HB0.out
  | true =>
    rw [hg] at G
    cases hm : mkOk size m with
    | false =>
      rw [hm] at I
      have HN : Hid (∀ w', Below w.heap.size w w' → RsPost (true && false) (addL [] m) w (.returned (.tuple #[.slice none 0 0, .bool false])) w') := hide (fun w' hb => rs_no rfl hb)
      clear hg hm
      go_enter Tryd.func13, Tryd.ntmps13
      go_wp2_with fail
      clear hW0
      refine G.out.mono ?_
      rintro e w1 ⟨rfl, hw⟩
      replace hw := hw.symm; subst hw
      go_wp2_with fail
      refine (I.out _).mono ?_
      rintro e w2 ⟨rfl, hb2⟩
      go_wp2
      go_ret2
      exact HN.out _ (HB0.out.trans (hb2.mono hs0))
    | true =>
      rw [hm] at I
      have HM := hide hm
      clear hg hm
      go_enter Tryd.func13, Tryd.ntmps13
      go_wp2_with fail
      clear hW0
      refine G.out.mono ?_
      rintro e w1 ⟨rfl, hw⟩
      replace hw := hw.symm; subst hw
      go_wp2_with fail
      refine (I.out _).mono ?_
      rintro e w2 ⟨rfl, hb2⟩
      have x1 := hb2.block w.heap.size (by omega)
      have b0 := (World.cell?_of_block (a := ⟨w.heap.size, 0, none⟩) x1).trans z0
      have b1 := (World.cell?_of_block (a := ⟨w.heap.size, 1, none⟩) x1).trans z1
      have b2 := (World.cell?_of_block (a := ⟨w.heap.size, 2, none⟩) x1).trans z2
      have hs2 := hb2.size
      have P := hide (pi_push (pi_new w2 59) m (by simp))
      obtain ⟨W, hW⟩ : ∃ W, w2.alloc (.cells #[.slice none 0 0] 59) = W := ⟨_, rfl⟩
      have hWs : w2.heap.size < W.heap.size := by rw [← hW]; simp
      have hbW : Below w.heap.size w W := by rw [← hW]; exact (HB0.out.trans (hb2.mono hs0)).alloc (by omega) _
      rw [hW] at P
      have nb : W.heap[w.heap.size]? = w2.heap[w.heap.size]? := by rw [← hW]; exact Below.heap_alloc w2 _ _ (by omega)
      have d0 := (World.cell?_of_block (a := ⟨w.heap.size, 0, none⟩) nb).trans b0
      have d1 := (World.cell?_of_block (a := ⟨w.heap.size, 1, none⟩) nb).trans b1
      have d2 := (World.cell?_of_block (a := ⟨w.heap.size, 2, none⟩) nb).trans b2
      have HB := hide hbW
      clear x1 z0 z1 z2 hb2 G I hbW nb b0 b1 b2
      go_wp2_with fail
      refine P.out.mono ?_
      rintro e w3 ⟨rfl, hp3⟩
      have HP := hide hp3
      clear hp3 P hW d0 d1 d2
      go_wp2
      go_loopw [25] (fun i wr => i = .int .i64 0 ∧ wr = w3) (fun _ _ => 0)
      case atStart => exact ⟨rfl, rfl⟩
      case round =>
        obtain ⟨rfl, rfl⟩ := hrel
        have HBr := hide (HB.out.trans (HP.out.below (show w.heap.size ≤ w2.heap.size by omega) hWs))
        have e2 : (endsOf m).length ≤ 2 := by unfold endsOf; split <;> simp
        obtain ⟨E', hr, hE⟩ := rp_add (L := []) (E := []) .nil (grp_ends (ok_parts HM.out).2.2.1)
        have MN := hide (pi_marks HP.out (by simpa using hE) hr (addL_pw [] m List.Pairwise.nil (fun x hx => by cases hx)) (by simp; omega) (addL_styles (fun s => s.size ≤ 1048576) [] m hst (fun x hx => by cases hx)) (show w.heap.size ≤ w2.heap.size by omega) hWs)
        have hwr := HBr.out.size
        clear hr hE HP e2
        go_wp2_with fail
        refine MN.out.mono ?_
        rintro e w5 ⟨hpo, hm5⟩
        obtain ⟨v5, b5, he5⟩ := mk_form hpo
        subst he5
        have HPO := hide hpo
        have HM5 := hide hm5
        clear hpo hm5
        go_wp2
        go_ret2
        exact rs_yes (by rfl) (HBr.out.trans HM5.out) hwr HPO.out
end Go.Proofs.YtbooongkbninhaaDoor

namespace Go.Proofs.YtbooongkbninhaaDoor
open Go.RowKit
open Doc1

set_option maxRecDepth 100000 in
set_option maxHeartbeats 4000000 in
theorem addS_nil (size : Int) (m : Mk) (w : World) (hst : m.style.size ≤ 1048576) :
    Calls Tryd.prog 14 #[.slice none 0 0, .int .i64 size, .agg #[.int .i64 m.frm, .int .i64 m.to, .string m.style]] w (RsPost (goodM [] size && mkOk size m) (addL [] m) w) := by
  obtain ⟨y0, y1, y2⟩ := cellsE_new w (.int .i64 m.frm) (.int .i64 m.to) (.string m.style)
  have z0 := y0 34
  have z1 := y1 34
  have z2 := y2 34
  have hb0 : Below w.heap.size w (w.alloc (.cells #[.int .i64 m.frm, .int .i64 m.to, .string m.style] 34)) := (Below.refl _ _).alloc (Nat.le_refl _) _
  obtain ⟨W0, hW0⟩ : ∃ W0, w.alloc (.cells #[.int .i64 m.frm, .int .i64 m.to, .string m.style] 34) = W0 := ⟨_, rfl⟩
  rw [hW0] at z0 z1 z2 hb0
  have hs0 := hb0.size
  have hz0 : W0.heap.size = w.heap.size + 1 := by rw [← hW0]; simp
  have G := hide (goodMarksS_nil none 0 size W0)
  have I := fun w => l5Mark_any m size w hst
  unfold mrV at I
  replace I := hide I
  have HB0 := hide hb0
  clear y0 y1 y2 hb0
  cases hg : goodM [] size with
  | false =>
    rw [hg] at G
    have HN : Hid (∀ w', Below w.heap.size w w' → RsPost (false && mkOk size m) (addL [] m) w (.returned (.tuple #[.slice none 0 0, .bool false])) w') := hide (fun w' hb => rs_no rfl hb)
    clear hg
    go_enter Tryd.func14, Tryd.ntmps14
    go_wp2_with fail
    clear hW0
    refine G.out.mono ?_
    rintro e w1 ⟨rfl, hw⟩
    replace hw := hw.symm; subst hw
    go_wp2
    go_ret2
    exact HN.out _ HB0.out
  | true =>
    rw [hg] at G
    cases hm : mkOk size m with
    | false =>
      rw [hm] at I
      have HN : Hid (∀ w', Below w.heap.size w w' → RsPost (true && false) (addL [] m) w (.returned (.tuple #[.slice none 0 0, .bool false])) w') := hide (fun w' hb => rs_no rfl hb)
      clear hg hm
      go_enter Tryd.func14, Tryd.ntmps14
      go_wp2_with fail
      clear hW0
      refine G.out.mono ?_
      rintro e w1 ⟨rfl, hw⟩
      replace hw := hw.symm; subst hw
      go_wp2_with fail
      refine (I.out _).mono ?_
      rintro e w2 ⟨rfl, hb2⟩
      go_wp2
      go_ret2
      exact HN.out _ (HB0.out.trans (hb2.mono hs0))
    | true =>
      rw [hm] at I
      have L5 := hide (fun w1 => l5Add_nil m w1)
      clear hg hm
      go_enter Tryd.func14, Tryd.ntmps14
      go_wp2_with fail
      clear hW0
      refine G.out.mono ?_
      rintro e w1 ⟨rfl, hw⟩
      replace hw := hw.symm; subst hw
      go_wp2_with fail
      refine (I.out _).mono ?_
      rintro e w2 ⟨rfl, hb2⟩
      have x1 := hb2.block w.heap.size (by omega)
      have b0 := (World.cell?_of_block (a := ⟨w.heap.size, 0, none⟩) x1).trans z0
      have b1 := (World.cell?_of_block (a := ⟨w.heap.size, 1, none⟩) x1).trans z1
      have b2 := (World.cell?_of_block (a := ⟨w.heap.size, 2, none⟩) x1).trans z2
      have HB2 := hide (HB0.out.trans (hb2.mono hs0))
      clear x1 z0 z1 z2 hb2 G I
      go_wp2_with fail
      refine (L5.out _).mono ?_
      rintro e w3 ⟨v, rfl, ow, hb3⟩
      obtain ⟨av, cv, rfl, -, -⟩ := own_shp ow
      have HOW := hide ow
      have HB3 := hide hb3
      have hl1 : (addL [] m).length = 1 := rfl
      rw [hl1]
      clear ow hb3 b0 b1 b2 L5
      go_wp2
      go_ret2
      have hs2' := HB2.out.size
      refine rs_yes rfl (HB2.out.trans (HB3.out.mono hs2')) hs2' ?_
      unfold MkPost
      rw [if_neg (by rw [hl1]; omega)]
      exact ⟨_, rfl, HOW.out⟩

set_option maxRecDepth 100000 in
set_option maxHeartbeats 2000000 in
theorem coveredI_nil (size : Int) (st : ByteArray) (w : World) (hst : st.size ≤ 1048576) :
    Calls Tryd.prog 16 #[.slice none 0 0, .int .i64 size, .string st] w fun e w' => e = .returned (.tuple #[.int .i64 0, .bool (goodM [] size && isSt st)]) ∧ Below w.heap.size w w' := by
  have G := hide (goodMarksI_nil none 0 size w)
  have I := hide (fun w1 => isStyle_any st w1 hst)
  generalize goodM [] size = x at *
  generalize isSt st = y at *
  cases x with
  | false =>
    go_enter Tryd.func16, Tryd.ntmps16
    go_wp2_with fail
    refine G.out.mono ?_
    rintro e w1 ⟨rfl, hw⟩
    replace hw := hw.symm; subst hw
    go_wp2
    go_ret2
    exact ⟨rfl, Below.refl _ _⟩
  | true =>
    cases y with
    | false =>
      go_enter Tryd.func16, Tryd.ntmps16
      go_wp2_with fail
      refine G.out.mono ?_
      rintro e w1 ⟨rfl, hw⟩
      replace hw := hw.symm; subst hw
      go_wp2_with fail
      refine (I.out _).mono ?_
      rintro e w1 ⟨rfl, hw⟩
      replace hw := hw.symm; subst hw
      go_wp2
      go_ret2
      exact ⟨rfl, Below.refl _ _⟩
    | true =>
      go_enter Tryd.func16, Tryd.ntmps16
      go_wp2_with fail
      refine G.out.mono ?_
      rintro e w1 ⟨rfl, hw⟩
      replace hw := hw.symm; subst hw
      go_wp2_with fail
      refine (I.out _).mono ?_
      rintro e w1 ⟨rfl, hw⟩
      replace hw := hw.symm; subst hw
      go_wp2
      go_loopw [8, 22] (fun n i wr => n = .int .i64 0 ∧ i = .int .i64 0 ∧ wr = w) (fun _ _ _ => 0)
      case atStart => exact ⟨rfl, rfl, rfl⟩
      case round =>
        obtain ⟨rfl, rfl, rfl⟩ := hrel
        go_wp2
        go_ret2
        exact ⟨rfl, Below.refl _ _⟩

set_option maxRecDepth 100000 in
set_option maxHeartbeats 2000000 in
theorem stylesI_nil (size at' : Int) (w : World) :
    Calls Tryd.prog 17 #[.slice none 0 0, .int .i64 size, .int .i64 at'] w fun e w' => e = .returned (.tuple #[.slice none 0 0, .bool (styOk [] size at')]) ∧ Below w.heap.size w w' := by
  have G := hide (goodMarksI_nil none 0 size w)
  unfold styOk
  generalize goodM [] size = x at *
  cases x with
  | false =>
    go_enter Tryd.func17, Tryd.ntmps17
    go_wp2_with fail
    refine G.out.mono ?_
    rintro e w1 ⟨rfl, hw⟩
    replace hw := hw.symm; subst hw
    go_wp2
    go_ret2
    exact ⟨rfl, Below.refl _ _⟩
  | true =>
    by_cases h1 : at' < 0
    · have d1 : decide (at' < 0) = true := decide_eq_true h1
      rw [decide_eq_false (show ¬ (0 ≤ at' ∧ at' < size) by omega)]
      go_enter Tryd.func17, Tryd.ntmps17
      go_wp2_with fail
      refine G.out.mono ?_
      rintro e w1 ⟨rfl, hw⟩
      replace hw := hw.symm; subst hw
      go_wp2
      go_ret2
      exact ⟨rfl, Below.refl _ _⟩
    · have d1 : decide (at' < 0) = false := decide_eq_false h1
      by_cases h2 : size ≤ at'
      · have d2 : decide (size ≤ at') = true := decide_eq_true h2
        rw [decide_eq_false (show ¬ (0 ≤ at' ∧ at' < size) by omega)]
        go_enter Tryd.func17, Tryd.ntmps17
        go_wp2_with fail
        refine G.out.mono ?_
        rintro e w1 ⟨rfl, hw⟩
        replace hw := hw.symm; subst hw
        go_wp2
        go_ret2
        exact ⟨rfl, Below.refl _ _⟩
      · have d2 : decide (size ≤ at') = false := decide_eq_false h2
        rw [decide_eq_true (show 0 ≤ at' ∧ at' < size by omega)]
        go_enter Tryd.func17, Tryd.ntmps17
        go_wp2_with fail
        refine G.out.mono ?_
        rintro e w1 ⟨rfl, hw⟩
        replace hw := hw.symm; subst hw
        go_wp2
        go_loopw [8, 26] (fun n i wr => n = .slice none 0 0 ∧ i = .int .i64 0 ∧ wr = w) (fun _ _ _ => 0)
        case atStart => exact ⟨rfl, rfl, rfl⟩
        case round =>
          obtain ⟨rfl, rfl, rfl⟩ := hrel
          go_wp2
          go_ret2
          exact ⟨rfl, Below.refl _ _⟩

set_option maxRecDepth 100000 in
set_option maxHeartbeats 2000000 in
theorem mmS_bad (v vl : Value) (w : World) (x y : Int) (hS : Calls Tryd.prog 23 #[v] w fun e w' => e = .returned (.tuple #[.int .i64 x, .int .i64 y]) ∧ Below w.heap.size w w')
    (hG : ∀ w1, Below w.heap.size w w1 → Calls Tryd.prog 29 #[v] w1 fun e w' => e = .returned (.bool false) ∧ Below w1.heap.size w1 w') :
    Calls Tryd.prog 8 #[v, vl] w fun e w' => e = .returned (.tuple #[.slice none 0 0, .bool false]) ∧ Below w.heap.size w w' := by
  have S := hide hS
  have G := hide hG
  clear hS hG
  go_enter Tryd.func8, Tryd.ntmps8
  go_wp2_with fail
  refine S.out.mono ?_
  rintro e w1 ⟨rfl, hb1⟩
  go_wp2_with fail
  refine (G.out _ hb1).mono ?_
  rintro e w2 ⟨rfl, hb2⟩
  replace hb2 := hb1.trans (hb2.mono hb1.size)
  go_wp2
  go_ret2
  exact ⟨rfl, hb2⟩

set_option maxRecDepth 100000 in
set_option maxHeartbeats 2000000 in
theorem mmS_nil (v : Value) (av : Option Addr) (cv : Nat) (w : World) (x y : Int) (hS : Calls Tryd.prog 23 #[v] w fun e w' => e = .returned (.tuple #[.int .i64 x, .int .i64 y]) ∧ Below w.heap.size w w')
    (hG : ∀ w1, Below w.heap.size w w1 → Calls Tryd.prog 29 #[v] w1 fun e w' => e = .returned (.bool true) ∧ Below w1.heap.size w1 w') :
    Calls Tryd.prog 8 #[v, .slice av 0 cv] w fun e w' => e = .returned (.tuple #[.slice none 0 0, .bool (goodM [] x)]) ∧ Below w.heap.size w w' := by
  have S := hide hS
  have G := hide hG
  have M := hide (fun w1 => goodMarksS_nil av cv x w1)
  clear hS hG
  generalize goodM [] x = z at *
  cases z with
  | false =>
    go_enter Tryd.func8, Tryd.ntmps8
    go_wp2_with fail
    refine S.out.mono ?_
    rintro e w1 ⟨rfl, hb1⟩
    go_wp2_with fail
    refine (G.out _ hb1).mono ?_
    rintro e w2 ⟨rfl, hb2⟩
    replace hb2 := hb1.trans (hb2.mono hb1.size)
    go_wp2_with fail
    refine (M.out _).mono ?_
    rintro e w3 ⟨rfl, hw⟩
    replace hw := hw.symm; subst hw
    go_wp2
    go_ret2
    exact ⟨rfl, hb2⟩
  | true =>
    go_enter Tryd.func8, Tryd.ntmps8
    go_wp2_with fail
    refine S.out.mono ?_
    rintro e w1 ⟨rfl, hb1⟩
    go_wp2_with fail
    refine (G.out _ hb1).mono ?_
    rintro e w2 ⟨rfl, hb2⟩
    replace hb2 := hb1.trans (hb2.mono hb1.size)
    go_wp2_with fail
    refine (M.out _).mono ?_
    rintro e w3 ⟨rfl, hw⟩
    replace hw := hw.symm; subst hw
    clear S G M hb1
    go_wp2
    go_loopw [8, 31] (fun n i wr => n = .slice none 0 0 ∧ i = .int .i64 0 ∧ wr = w2) (fun _ _ _ => 0)
    case atStart => exact ⟨rfl, rfl, rfl⟩
    case round =>
      obtain ⟨rfl, rfl, rfl⟩ := hrel
      go_wp2
      go_ret2
      exact ⟨rfl, hb2⟩

set_option maxRecDepth 100000 in
set_option maxHeartbeats 2000000 in
theorem mmI_bad (v vl : Value) (w : World) (x y : Int) (hS : Calls Tryd.prog 25 #[v] w fun e w' => e = .returned (.tuple #[.int .i64 x, .int .i64 y, .bool false]) ∧ Below w.heap.size w w') :
    Calls Tryd.prog 7 #[v, vl] w fun e w' => e = .returned (.tuple #[.slice none 0 0, .bool false]) ∧ Below w.heap.size w w' := by
  have S := hide hS
  clear hS
  go_enter Tryd.func7, Tryd.ntmps7
  go_wp2_with fail
  refine S.out.mono ?_
  rintro e w1 ⟨rfl, hb1⟩
  go_wp2
  go_ret2
  exact ⟨rfl, hb1⟩

set_option maxRecDepth 100000 in
set_option maxHeartbeats 2000000 in
theorem mmI_nil (v : Value) (av : Option Addr) (cv : Nat) (w : World) (x y : Int) (hS : Calls Tryd.prog 25 #[v] w fun e w' => e = .returned (.tuple #[.int .i64 x, .int .i64 y, .bool true]) ∧ Below w.heap.size w w') :
    Calls Tryd.prog 7 #[v, .slice av 0 cv] w fun e w' => ∃ u, e = .returned (.tuple #[u, .bool (goodM [] x)]) ∧ MrOwn w' w.heap.size u [] ∧ Below w.heap.size w w' := by
  have S := hide hS
  have M := hide (fun w1 => goodMarksI_nil av cv x w1)
  clear hS
  generalize goodM [] x = z at *
  cases z with
  | false =>
    go_enter Tryd.func7, Tryd.ntmps7
    go_wp2_with fail
    refine S.out.mono ?_
    rintro e w1 ⟨rfl, hb1⟩
    go_wp2_with fail
    refine (M.out _).mono ?_
    rintro e w3 ⟨rfl, hw⟩
    replace hw := hw.symm; subst hw
    go_wp2
    go_ret2
    exact ⟨_, rfl, World.ownsRow_nil _ _ _ _, hb1⟩
  | true =>
    go_enter Tryd.func7, Tryd.ntmps7
    go_wp2_with fail
    refine S.out.mono ?_
    rintro e w1 ⟨rfl, hb1⟩
    go_wp2_with fail
    refine (M.out _).mono ?_
    rintro e w3 ⟨rfl, hw⟩
    replace hw := hw.symm; subst hw
    have HP := hide (pi_new w1 59)
    obtain ⟨W, hW⟩ : ∃ W, w1.alloc (.cells #[.slice none 0 0] 59) = W := ⟨_, rfl⟩
    have hWs : w1.heap.size < W.heap.size := by rw [← hW]; simp
    have hbW : Below w.heap.size w W := by rw [← hW]; exact hb1.alloc hb1.size _
    rw [hW] at HP
    have hs1 := hb1.size
    clear S M
    go_wp2
    clear hW
    go_loopw [32] (fun i wr => i = .int .i64 0 ∧ wr = W) (fun _ _ => 0)
    case atStart => exact ⟨rfl, rfl⟩
    case round =>
      obtain ⟨rfl, rfl⟩ := hrel
      have MN := hide (pi_marks HP.out (List.Perm.refl _) .nil List.Pairwise.nil (by simp) (fun x hx => by cases hx) (show w.heap.size ≤ w1.heap.size by omega) hWs)
      clear HP
      go_wp2_with fail
      refine MN.out.mono ?_
      rintro e w5 ⟨hpo, hm5⟩
      unfold MkPost at hpo
      rw [if_neg (by simp)] at hpo
      obtain ⟨v5, rfl, ow⟩ := hpo
      obtain ⟨av, cv, rfl, -, -⟩ := own_shp ow
      have hz := hbW.size
      go_wp2
      go_ret2
      exact ⟨_, rfl, MrOwn.mono (l := []) ow hz, hbW.trans hm5⟩
end Go.Proofs.YtbooongkbninhaaDoor

namespace Go.Proofs.YtbooongkbninhaaDoor
open Go.RowKit
open Doc1

theorem goodMarksI_own {w : World} {B : Nat} {v : Value} {L : List Mk} (size : Int) (h : MrOwn w B v L) (hs : ∀ x ∈ L, x.style.size ≤ 1048576) (hl : L.length ≤ 1048576) :
    Calls Tryd.prog 11 #[v, .int .i64 size] w fun e w' => e = .returned (.bool (goodM L size)) ∧ Below w.heap.size w w' := by
  rcases mr_own_in h hs hl with ⟨rfl, rfl⟩ | ⟨g, cap, rfl, hin⟩
  · exact (goodMarksI_nil none 0 size w).mono (fun _ _ ⟨a, b⟩ => ⟨a, by rw [b]; exact Below.refl _ _⟩)
  · exact goodMarksI size hin
theorem addI_own {w : World} {B : Nat} {v : Value} {L : List Mk} (size : Int) (m : Mk) (hst : m.style.size ≤ 1048576) (h : MrOwn w B v L) (hs : ∀ x ∈ L, x.style.size ≤ 1048576) (hl : L.length ≤ 1048576) :
    Calls Tryd.prog 13 #[v, .int .i64 size, .agg #[.int .i64 m.frm, .int .i64 m.to, .string m.style]] w (RsPost (goodM L size && mkOk size m) (addL L m) w) := by
  rcases mr_own_in h hs hl with ⟨rfl, rfl⟩ | ⟨g, cap, rfl, hin⟩
  · exact addI_nil size m w hst
  · exact addI size m hst hin (fun w1 h1 => goodMarksI size h1)
theorem addS_own {w : World} {B : Nat} {v : Value} {L : List Mk} (size : Int) (m : Mk) (hst : m.style.size ≤ 1048576) (h : MrOwn w B v L) (hs : ∀ x ∈ L, x.style.size ≤ 1048576) (hl : L.length ≤ 1048576) :
    Calls Tryd.prog 14 #[v, .int .i64 size, .agg #[.int .i64 m.frm, .int .i64 m.to, .string m.style]] w (RsPost (goodM L size && mkOk size m) (addL L m) w) := by
  rcases mr_own_in h hs hl with ⟨rfl, rfl⟩ | ⟨g, cap, rfl, hin⟩
  · exact addS_nil size m w hst
  · exact addS size m hst hin
theorem coveredI_own {w : World} {B : Nat} {v : Value} {L : List Mk} (size : Int) (st : ByteArray) (hst : st.size ≤ 1048576) (h : MrOwn w B v L) (hs : ∀ x ∈ L, x.style.size ≤ 1048576) (hl : L.length ≤ 1048576) :
    Calls Tryd.prog 16 #[v, .int .i64 size, .string st] w fun e w' => e = .returned (.tuple #[.int .i64 (covT L size st), .bool (goodM L size && isSt st)]) ∧ Below w.heap.size w w' := by
  rcases mr_own_in h hs hl with ⟨rfl, rfl⟩ | ⟨g, cap, rfl, hin⟩
  · have : covT [] size st = 0 := by unfold covT; split <;> rfl
    rw [this]
    exact coveredI_nil size st w hst
  · exact coveredI size st hst hin
theorem stylesI_own {w : World} {B : Nat} {v : Value} {L : List Mk} (size at' : Int) (h : MrOwn w B v L) (hs : ∀ x ∈ L, x.style.size ≤ 1048576) (hl : L.length ≤ 1048576) :
    Calls Tryd.prog 17 #[v, .int .i64 size, .int .i64 at'] w fun e w' => ∃ u, e = .returned (.tuple #[u, .bool (styOk L size at')]) ∧ SOwn w' w.heap.size u (styT L size at') ∧ Below w.heap.size w w' := by
  rcases mr_own_in h hs hl with ⟨rfl, rfl⟩ | ⟨g, cap, rfl, hin⟩
  · refine (stylesI_nil size at' w).mono (fun _ _ ⟨a, b⟩ => ⟨_, a, ?_, b⟩)
    have : styT [] size at' = [] := by unfold styT; split <;> rfl
    rw [this]
    exact World.ownsRow_nil _ _ _ _
  · exact stylesI size at' hin
theorem goodOpS_all {w : World} {B : Nat} {v : Value} {op : List Pt} (h : POwn w B v op) (hT : Tab w) (hsm : ∀ p ∈ op, smP p) : Calls Tryd.prog 29 #[v] w fun e w' => e = .returned (.bool (goodO op)) ∧ Below w.heap.size w w' := by
  by_cases hl : op.length ≤ 1048576
  · obtain ⟨aw, g, cap, rfl, hp⟩ := own_pin h hT (smP_sz hsm) hl
    exact goodOpS hp
  · obtain ⟨a, cap, rfl⟩ := own_sl h
    rw [no_big hl]
    exact goodOpS_big a op.length cap (by omega)
theorem mm_nil (op : List Pt) : mmL op [] = [] := rfl
theorem rs_nil {op : List Pt} {u : Value} {w w' : World} (hg : goodO op = true) (ho : MrOwn w' w.heap.size u []) (hb : Below w.heap.size w w') : RsPost (mmOk op []) (mmL op []) w (.returned (.tuple #[u, .bool (goodM [] (tkL op))])) w' := by
  refine ⟨u, ?_, ?_, hb⟩
  · have : RsB (mmOk op []) (mmL op []) = goodM [] (tkL op) := by unfold RsB mmOk; rw [hg, mm_nil]; simp
    rw [this]
  · have : RsT (mmOk op []) (mmL op []) = [] := by unfold RsT; rw [mm_nil]; split <;> rfl
    rw [this]; exact ho
theorem mmS_own {w : World} {B Bm : Nat} {v vm : Value} {op : List Pt} {L : List Mk} (h : POwn w B v op) (hT : Tab w) (hl : op.length ≤ 2586186935076) (hsm : ∀ p ∈ op, smP p) (hm : MrOwn w Bm vm L) (hs : ∀ x ∈ L, x.style.size ≤ 1048576) (hL : L.length ≤ 1048576) (h0 : op = [] → L = []) :
    Calls Tryd.prog 8 #[v, vm] w (RsPost (mmOk op L) (mmL op L) w) := by
  have S := l3Sizes_own h hT hl hsm
  have G := fun w1 (hb : Below w.heap.size w w1) => goodOpS_all (own_below h hb) (hT.below hb) hsm
  cases hg : goodO op with
  | false =>
    rw [hg] at G
    refine (mmS_bad v vm w _ _ S G).mono ?_
    rintro e w' ⟨rfl, hb⟩
    exact rs_no (by unfold mmOk; rw [hg]; rfl) hb
  | true =>
    rw [hg] at G
    by_cases hne : L = []
    · subst hne
      obtain ⟨av, cv, rfl, -, -⟩ := own_shp hm
      refine (mmS_nil v av cv w _ _ S G).mono ?_
      rintro e w' ⟨rfl, hb⟩
      exact rs_nil hg (World.ownsRow_nil _ _ _ _) hb
    · rcases mr_own_in hm hs hL with ⟨-, c⟩ | ⟨g, cap, rfl, hin⟩
      · exact absurd c hne
      · obtain ⟨aw, g2, c2, rfl, hp⟩ := own_pin h hT (smP_sz hsm) (by have := (goodO_parts hg).1; omega)
        have := hp.ad (fun c => hne (h0 c))
        subst this
        exact mmS hp hin
theorem mmI_own {w : World} {B Bm : Nat} {v vm : Value} {op : List Pt} {L : List Mk} (h : POwn w B v op) (hT : Tab w) (hsm : ∀ p ∈ op, smP p) (hm : MrOwn w Bm vm L) (hs : ∀ x ∈ L, x.style.size ≤ 1048576) (hL : L.length ≤ 1048576) (h0 : op = [] → L = []) :
    Calls Tryd.prog 7 #[v, vm] w (RsPost (mmOk op L) (mmL op L) w) := by
  have S := sizesI_own h hT hsm
  cases hg : goodO op with
  | false =>
    rw [hg] at S
    refine (mmI_bad v vm w _ _ S).mono ?_
    rintro e w' ⟨rfl, hb⟩
    exact rs_no (by unfold mmOk; rw [hg]; rfl) hb
  | true =>
    have ht : szT op = tkL op := by unfold szT; rw [hg]; rfl
    rw [hg, ht] at S
    by_cases hne : L = []
    · subst hne
      obtain ⟨av, cv, rfl, -, -⟩ := own_shp hm
      refine (mmI_nil v av cv w _ _ S).mono ?_
      rintro e w' ⟨u, rfl, ho, hb⟩
      exact rs_nil hg ho hb
    · rcases mr_own_in hm hs hL with ⟨-, c⟩ | ⟨g, cap, rfl, hin⟩
      · exact absurd c hne
      · obtain ⟨aw, g2, c2, rfl, hp⟩ := own_pin h hT (smP_sz hsm) (by have := (goodO_parts hg).1; omega)
        have := hp.ad (fun c => hne (h0 c))
        subst this
        exact mmI hp hin hT (fun w1 size h1 => goodMarksI size h1)
theorem cutI_own {w : World} {B : Nat} {v : Value} {L : List Mk} (size fr tt : Int) (st : ByteArray) (hst : st.size ≤ 1048576) (h : MrOwn w B v L) (hs : ∀ x ∈ L, x.style.size ≤ 1048576) (hl : L.length ≤ 1048576) (hne : L ≠ []) :
    Calls Tryd.prog 15 #[v, .int .i64 size, .int .i64 fr, .int .i64 tt, .string st] w (CutPost L size fr tt st w) := by
  rcases mr_own_in h hs hl with ⟨-, c⟩ | ⟨g, cap, rfl, hin⟩
  · exact absurd c hne
  · exact cutI size fr tt st hst hin (goodMarksI size hin)
end Go.Proofs.YtbooongkbninhaaDoor

namespace Go.Proofs.YtbooongkbninhaaDoor
open Go.RowKit
open Doc1

theorem grown_up {w w' : World} {r : Option Nat} (h : Below w.heap.size w w') : w.grownBy w' r := ⟨h.os, h.tape, h.output, h.size, fun k hk _ => h.block k hk⟩
def threeStyles : List ByteArray := [⟨#[98, 111, 108, 100]⟩, ⟨#[101, 109]⟩, ⟨#[99, 111, 100, 101]⟩]
def fourStyles : List ByteArray := [⟨#[98, 111, 108, 100]⟩, ⟨#[101, 109]⟩, ⟨#[]⟩, ⟨#[65]⟩]
theorem three_le : ∀ s ∈ threeStyles, s.size ≤ 8 := by decide
theorem four_le : ∀ s ∈ fourStyles, s.size ≤ 8 := by decide
theorem mr_put0 {w : World} {B g n cap : Nat} {x : Mk} {b : List Mk} (h : MrOwn w B (.slice (some ⟨g, 0, none⟩) n cap) (x :: b)) (y : Int) (hn : n = b.length + 1) : MrOwn (w.setCell ⟨g, 1, none⟩ (.int .i64 y)) B (.slice (some ⟨g, 0, none⟩) n cap) (⟨x.frm, y, x.style⟩ :: b) := by
  subst hn
  unfold MrOwn at h ⊢
  exact (World.ownsRow.stored h 1 (.int .i64 y)).1
/-- Between two rounds: the cursor, and the marks so far. -/
structure DI (g : Nat) (C : Value) (M : Nat) (size : Int) (w : World) (v : Value) (L : List Mk) (wr : World) (k : Nat) : Prop where
  cur : CurAt g C (M + 2 + 12 * k) wr
  gr : w.grownBy wr (some g)
  own : MrOwn wr w.heap.size v L
  zr : size ≤ 0 → L = []
  len : L.length ≤ k
  sm : ∀ x ∈ L, x.style.size ≤ 8

/-- What the drawing of marks leaves. -/
def DmPost (g : Nat) (C : Value) (M : Nat) (size : Int) (w : World) (e : Ending) (w' : World) : Prop := ∃ v L, e = .returned v ∧ MrOwn w' w.heap.size v L ∧ (size ≤ 0 → L = []) ∧ L.length ≤ 10 ∧ (∀ x ∈ L, x.style.size ≤ 8) ∧ CurAt g C (M + 100) w' ∧ w.grownBy w' (some g)

set_option maxRecDepth 100000 in
set_option maxHeartbeats 4000000 in
theorem drMarks_any (g : Nat) (C : Value) (M : Nat) (size : Int) (w : World) (hcur : CurAt g C M w) (hco : CodeAt g C w) (hM : M ≤ 1000000000000000) (hz : size ≤ 1000) (hz0 : -1000000000000000 ≤ size) :
    Calls Tryd.prog 24 #[.pointer (some ⟨g, 0, none⟩), .int .i64 size] w (DmPost g C M size w) := by
  have hgl : g < w.heap.size := hcur.lt
  have P1 := hide (pick_any g C M 6 w hcur hco (by omega))
  have HCO := hide hco
  clear hcur hco
  go_enter Tryd.func24, Tryd.ntmps24
  go_wp2_with fail
  refine P1.out.mono ?_
  rintro e w1 ⟨y, rfl, hy0, hy1, hy2, hc1, hg1⟩
  have hy6 : y ≤ 5 := by omega
  have R0 : Hid (DI g C M size w (.slice none 0 0) [] w1 0) := hide ⟨hc1, hg1, World.ownsRow_nil _ _ _ _, fun _ => rfl, by simp, fun x hx => by cases hx⟩
  clear P1 hc1 hg1 hy2
  go_wp2
  go_loopw [5, 6] (fun v n wr => ∃ j : Nat, (j : Int) ≤ y ∧ n = .int .i64 (y - j) ∧ ∃ v0, v0 = v ∧ ∃ L, Hid (DI g C M size w v0 L wr j)) (fun _ n _ => (intOf n).toNat)
  case atStart => exact ⟨0, by omega, by simp, _, rfl, [], R0⟩
  case round =>
    obtain ⟨j, hj, rfl, v, hv, L, HD⟩ := hrel
    subst hv
    clear R0
    have hjn : j ≤ 5 := by omega
    have hsz := HD.out.gr.size
    by_cases hn : (j : Int) < y
    · have d1 : decide (0 < y - (j : Int)) = true := decide_eq_true (by omega)
      by_cases hs : 0 < size
      · have d2 : decide (0 < size) = true := decide_eq_true hs
        have P2 := hide (pick_any g C _ size wr HD.out.cur (HCO.out.grown HD.out.gr) (by omega))
        go_wp2_with fail
        refine P2.out.mono ?_
        rintro e w2 ⟨y2, rfl, k0, k1, k2, hc2, hg2⟩
        have k3 := k2 hs
        have HG2 := hide (HD.out.gr.trans hg2)
        have P3 := hide (pick_any g C _ 5 w2 hc2 (HCO.out.grown HG2.out) (by omega))
        have HG2' := hide hg2
        clear P2 hc2 hg2 k2
        go_wp2_with fail
        refine P3.out.mono ?_
        rintro e w3 ⟨y3, rfl, l0, l1, l2, hc3, hg3⟩
        have l3 := l2 (by omega)
        have HG3 := hide (HG2.out.trans hg3)
        have hs3 := HG3.out.size
        have HOF := hide (of_any g C _ 8 w3.heap.size 0 3 3 _ (hc3.alloc (.cells (threeStyles.map Value.string).toArray 9)) ((HCO.out.grown HG3.out).alloc (.cells (threeStyles.map Value.string).toArray 9)) (by omega) (by omega) (texts_new w3 threeStyles 9 8 three_le) (by omega) (by omega) (by omega))
        have HG23 := hide (HG2'.out.trans hg3)
        have e1 : IntKind.i64.wrap (y2 + 1) = y2 + 1 := by rw [IntKind.wrap_i64]; omega
        have e2 : IntKind.i64.wrap (y2 + 1 + y3) = y2 + 1 + y3 := by rw [IntKind.wrap_i64]; omega
        clear P3 hc3 hg3 l2 HG2' HG2
        go_wp2_with fail
        refine HOF.out.mono ?_
        rintro e w4 ⟨t4, rfl, ht4, hc4, hg4⟩
        have hgb := HG23.out.trans (World.grownBy_alloc w3 (.cells (threeStyles.map Value.string).toArray 9) (some g))
        have HG4 := hide (HG3.out.trans ((World.grownBy_alloc w3 (.cells (threeStyles.map Value.string).toArray 9) (some g)).trans hg4))
        have HO4 := hide (own_grown HD.out.own (hgb.trans hg4) (fun b hb' e => by have := (HD.out.own.lt b hb').1; have := Option.some.inj e; omega))
        have hs4 := HG4.out.size
        have HC4 := hide hc4
        clear HOF hc4 hg4 hgb
        obtain ⟨av, cv, hv, -, -⟩ := own_shp HO4.out
        subst hv
        have hLs : ∀ x ∈ L, x.style.size ≤ 1048576 := fun x hx => by have := HD.out.sm x hx; omega
        have hLl : L.length ≤ 1048576 := by have := HD.out.len; omega
        have NX : Hid (∀ (m : Mk) (W w6 : World) (u : Value), m.style = t4 → Below w4.heap.size w4 W → MrOwn w6 W.heap.size u (RsT (goodM L size && mkOk size m) (addL L m)) → Below W.heap.size W w6 → DI g C M size w u (RsT (goodM L size && mkOk size m) (addL L m)) w6 (j + 1)) := hide (fun m W w6 u hm hb ho hb6 => by
          have hb46 := hb.trans (hb6.mono hb.size)
          have hz6 := hb.size
          refine ⟨(HC4.out.grown (grown_up (r := none) hb46) (by simp)).mono (by omega), HG4.out.trans (grown_up hb46), MrOwn.mono ho (by omega), fun c => absurd hs (by omega), ?_, fun x hx => ?_⟩
          · unfold RsT
            split
            · have := addL_len L m; have := HD.out.len; omega
            · simp
          · unfold RsT at hx
            split at hx
            · exact addL_styles (fun s => s.size ≤ 8) L m (by show m.style.size ≤ 8; rw [hm]; exact ht4) HD.out.sm x hx
            · cases hx)
        have AD := hide (fun (W : World) (hb : Below w4.heap.size w4 W) (m : Mk) (hm : m.style = t4) => addS_own size m (by rw [hm]; omega) (own_below HO4.out hb) hLs hLl)
        clear HD HO4 HC4 HG23 HG3 HG4
        by_cases hbig : size < y2 + 1 + y3
        · have d3 : decide (size < y2 + 1 + y3) = true := decide_eq_true hbig
          go_wp2_with fail
          refine (AD.out _ ((Below.refl _ _).alloc (Nat.le_refl _) _) ⟨y2, size, t4⟩ rfl).mono ?_
          rintro e w6 ⟨u, rfl, ho6, hb6⟩
          have HD6 := hide (NX.out ⟨y2, size, t4⟩ _ w6 u rfl ((Below.refl _ _).alloc (Nat.le_refl _) _) ho6 hb6)
          clear ho6 hb6 AD NX
          go_wp2
          go_roundw
          case rel => exact ⟨j + 1, by omega, by go_num, u, rfl, _, HD6⟩
          case measure => simp [intOf]; omega
        · have d3 : decide (size < y2 + 1 + y3) = false := decide_eq_false hbig
          go_wp2_with fail
          refine (AD.out _ ((Below.refl _ _).alloc (Nat.le_refl _) _) ⟨y2, y2 + 1 + y3, t4⟩ rfl).mono ?_
          rintro e w6 ⟨u, rfl, ho6, hb6⟩
          have HD6 := hide (NX.out ⟨y2, y2 + 1 + y3, t4⟩ _ w6 u rfl ((Below.refl _ _).alloc (Nat.le_refl _) _) ho6 hb6)
          clear ho6 hb6 AD NX
          go_wp2
          go_roundw
          case rel => exact ⟨j + 1, by omega, by go_num, u, rfl, _, HD6⟩
          case measure => simp [intOf]; omega
      · have d2 : decide (0 < size) = false := decide_eq_false hs
        have hL := HD.out.zr (by omega)
        subst hL
        obtain ⟨av, cv, hv, -, -⟩ := own_shp HD.out.own
        subst hv
        go_wp2
        go_ret
        exact ⟨_, [], rfl, HD.out.own, fun _ => rfl, by simp, (fun x hx => by cases hx), HD.out.cur.mono (by omega), HD.out.gr⟩
    · have d1 : decide (0 < y - (j : Int)) = false := decide_eq_false (by omega)
      have hl := HD.out.len
      cases L with
      | nil =>
        obtain ⟨av, cv, hv, -, -⟩ := own_shp HD.out.own
        subst hv
        go_wp2
        go_ret
        exact ⟨_, [], rfl, HD.out.own, fun _ => rfl, by simp, (fun x hx => by cases hx), HD.out.cur.mono (by omega), HD.out.gr⟩
      | cons x L =>
        have ON := hide (one_any g C _ 20 wr HD.out.cur (HCO.out.grown HD.out.gr) (by omega))
        obtain ⟨gl, cl, hv, -, -, hBg, hgl2, hcl, hbk⟩ := own_cat HD.out.own (by simp)
        have hgg : gl ≠ g := by omega
        subst hv
        simp only [List.length_cons] at hl
        go_wp2_with fail
        refine ON.out.mono ?_
        rintro e w2 ⟨b, rfl, hc2, hg2⟩
        have HG2 := hide (HD.out.gr.trans hg2)
        have HO2 := hide (own_grown HD.out.own hg2 (fun b hb' e => by have := (HD.out.own.lt b hb').1; have := Option.some.inj e; omega))
        cases b with
        | false =>
          clear ON
          go_wp2
          go_ret
          exact ⟨_, x :: L, rfl, HO2.out, fun c => HD.out.zr c, by simp; omega, HD.out.sm, hc2.mono (by omega), HG2.out⟩
        | true =>
          have PK := hide (pick_any g C _ 9 w2 hc2 (HCO.out.grown HG2.out) (by omega))
          clear ON hc2 hg2
          go_wp2_with fail
          refine PK.out.mono ?_
          rintro e w3 ⟨y3, rfl, l0, l1, l2, hc3, hg3⟩
          have HG3 := hide (HG2.out.trans hg3)
          have HO3 := own_grown HO2.out hg3 (fun b hb' e => by have := (HD.out.own.lt b hb').1; have := Option.some.inj e; omega)
          obtain ⟨gl', cl', hv', -, -, hBg', hgl3, hcl3, hbk3⟩ := own_cat HO3 (by simp)
          cases hv'
          have c1 := hcl3 1 (.int .i64 x.to) (by simp [encMr, mrC])
          have f1 := hbk3.fz 1
          have OF := hide (mr_put0 HO3 y3 (by simp))
          have HC3 := hide hc3
          clear PK hc3 hg3 l2 hcl3 hbk3 HO3 hcl hbk
          go_wp2
          go_ret
          exact ⟨_, ⟨x.frm, y3, x.style⟩ :: L, rfl, OF.out, fun c => absurd (HD.out.zr c) (by simp), by simp; omega, (fun z hz => by
            rcases List.mem_cons.1 hz with c | c
            · rw [c]; exact HD.out.sm x (by simp)
            · exact HD.out.sm z (by simp [c])), (HC3.out.setBlk (Ne.symm hgg)).mono (by omega), setBlk HG3.out hBg'⟩
end Go.Proofs.YtbooongkbninhaaDoor

namespace Go.Proofs.YtbooongkbninhaaDoor
open Go.RowKit
open Doc1

/-- A change, and marks of its text. -/
def DmmPost (w : World) (e : Ending) (w' : World) : Prop := ∃ v vm op L, e = .returned (.tuple #[v, vm]) ∧ POwn w' w.heap.size v op ∧ op.length ≤ 2586186935076 ∧ (∀ p ∈ op, smP p) ∧ MrOwn w' w.heap.size vm L ∧ L.length ≤ 10 ∧ (∀ x ∈ L, x.style.size ≤ 8) ∧ (op = [] → L = []) ∧ Below w.heap.size w w'

set_option maxRecDepth 100000 in
set_option maxHeartbeats 4000000 in
theorem drawMoveMarks_any (C : Value) (w : World) (hco : CodeAt w.heap.size C w) (hC : codeLen C ≤ 1048576) (hT : Tab w) :
    Calls Tryd.prog 6 #[C] w (DmmPost w) := by
  have hcur := cur_new w C
  have hco1 := hco.grown (World.grownBy_alloc w (.cells #[C, .int .i64 0, .int .u64 0] 52) (some w.heap.size))
  obtain ⟨a, len, cap, rfl⟩ := hco.shape
  clear hco
  have O := hide (op_any _ _ _ _ hcur hco1 hC (by omega))
  go_enter Tryd.func6, Tryd.ntmps6
  go_wp2_with fail
  refine O.out.mono ?_
  rintro e w1 ⟨v, L, rfl, hown, hL, hsm, hc1, hg1⟩
  have hco2 := hide (hco1.grown hg1)
  have hs1 := hg1.size
  have hb1 := below_of_grown hg1
  have T1 := hide (hT.below hb1)
  have S := hide (l3Sizes_own hown T1.out hL hsm)
  have HSM := hide hsm
  have hbd := (sm_sums L hsm).1
  have HO := hide hown
  have HG := hide hg1
  simp only [World.size_alloc] at hs1
  obtain ⟨av, cv, rfl⟩ := own_sl hown
  clear hco1 hcur O hsm hown hg1
  have hin0 : L = [] → tkL L = 0 := fun c => by rw [c]; rfl
  generalize hin : tkL L = tk at *
  clear hin
  go_wp2_with fail
  refine S.out.mono ?_
  rintro e w2 ⟨rfl, hb2⟩
  have hc2 := hide (hc1.grown (r := none) ⟨hb2.os, hb2.tape, hb2.output, hb2.size, fun k hk _ => hb2.block k hk⟩ (by simp))
  have hco3 := hide (hco2.out.grown (w' := w2) ⟨hb2.os, hb2.tape, hb2.output, hb2.size, fun k hk _ => hb2.block k hk⟩)
  have HO2 := hide (own_below HO.out hb2)
  have hbb := hb1.trans (hb2.mono hb1.size)
  have hs2 := hb2.size
  clear hc1 hco2 HO HG S hb2
  have FIN : Hid (∀ (w3 : World), w2.grownBy w3 (some w.heap.size) → POwn w3 w.heap.size (.slice av L.length cv) L ∧ Below w.heap.size w w3) := hide (fun w3 h3 => by
    refine ⟨POwn.mono (own_grown HO2.out h3 (fun b hb e => by have := (HO2.out.lt b hb).1; have := Option.some.inj e; simp at *; omega)) (by simp), ?_⟩
    exact hbb.trans ⟨h3.os, h3.tape, h3.output, h3.size, fun k hk => h3.block k (by omega) (fun e => by have := Option.some.inj e; omega)⟩)
  by_cases hbig : 1000 < tk
  · have PK := hide (drMarks_any w.heap.size (.slice a len cap) _ 10 w2 hc2.out hco3.out (by omega) (by omega) (by omega))
    go_wp2_with fail
    refine PK.out.mono ?_
    rintro e w3 ⟨vm, Lm, rfl, hom, hz, hlm, hsm, hc3, hg3⟩
    obtain ⟨F1, F2⟩ := FIN.out w3 hg3
    obtain ⟨am, cm, rfl, -, -⟩ := own_shp hom
    have hf : L = [] → Lm = [] := fun c => by have := hin0 c; omega
    have HM := hide (MrOwn.mono hom (by omega : w.heap.size ≤ w2.heap.size))
    clear PK FIN hom hc3 hc2 hco3
    go_wp2
    go_ret2
    exact ⟨_, _, L, Lm, rfl, F1, hL, HSM.out, HM.out, hlm, hsm, hf, F2⟩
  · have PK := hide (drMarks_any w.heap.size (.slice a len cap) _ tk w2 hc2.out hco3.out (by omega) (by omega) (by omega))
    go_wp2_with fail
    refine PK.out.mono ?_
    rintro e w3 ⟨vm, Lm, rfl, hom, hz, hlm, hsm, hc3, hg3⟩
    obtain ⟨F1, F2⟩ := FIN.out w3 hg3
    obtain ⟨am, cm, rfl, -, -⟩ := own_shp hom
    have hf : L = [] → Lm = [] := fun c => hz (by have := hin0 c; omega)
    have HM := hide (MrOwn.mono hom (by omega : w.heap.size ≤ w2.heap.size))
    clear PK FIN hom hc3 hc2 hco3
    go_wp2
    go_ret2
    exact ⟨_, _, L, Lm, rfl, F1, hL, HSM.out, HM.out, hlm, hsm, hf, F2⟩

/-- Marks, a size, and a mark. -/
def DamPost (w : World) (e : Ending) (w' : World) : Prop := ∃ (v : Value) (L : List Mk) (size : Int) (m : Mk), e = .returned (.tuple #[v, .int .i64 size, .agg #[.int .i64 m.frm, .int .i64 m.to, .string m.style]]) ∧ MrOwn w' w.heap.size v L ∧ L.length ≤ 10 ∧ (∀ x ∈ L, x.style.size ≤ 8) ∧ (1 ≤ size ∧ size ≤ 40) ∧ (0 ≤ m.frm ∧ m.frm ≤ 40 ∧ m.frm ≤ m.to ∧ m.to ≤ 50) ∧ m.style.size ≤ 8 ∧ Below w.heap.size w w'

set_option maxRecDepth 100000 in
set_option maxHeartbeats 4000000 in
theorem drawAddMark_any (C : Value) (w : World) (hco : CodeAt w.heap.size C w) :
    Calls Tryd.prog 12 #[C] w (DamPost w) := by
  have hcur := cur_new (w.alloc (.cells #[.int .i64 0, .int .i64 0, .string ⟨#[]⟩] 34)) C
  have hco2 := code_on hco ((Below.refl _ _).alloc (Nat.le_refl _) (.cells #[.int .i64 0, .int .i64 0, .string ⟨#[]⟩] 34))
  rw [World.size_alloc] at hcur hco2
  have hco1 := hco2.grown (World.grownBy_alloc _ (.cells #[C, .int .i64 0, .int .u64 0] 52) (some (w.heap.size + 1)))
  obtain ⟨a, len, cap, rfl⟩ := hco.shape
  obtain ⟨W0, hW0⟩ : ∃ W0, (w.alloc (.cells #[.int .i64 0, .int .i64 0, .string ⟨#[]⟩] 34)).alloc (.cells #[.slice a len cap, .int .i64 0, .int .u64 0] 52) = W0 := ⟨_, rfl⟩
  have hz0 : W0.heap.size = w.heap.size + 2 := by rw [← hW0]; simp
  have hb0 : Below w.heap.size w W0 := by rw [← hW0]; exact ((Below.refl _ _).alloc (Nat.le_refl _) _).alloc (by simp) _
  have hbx : W0.heap[w.heap.size]? = some (.cells #[.int .i64 0, .int .i64 0, .string ⟨#[]⟩] 34) := by rw [← hW0]; exact heap_alloc2_old _ _ _
  rw [hW0] at hcur hco1
  have P1 := hide (pick_any _ _ _ 40 W0 hcur hco1 (by omega))
  have HCO := hide hco1
  have HBX := hide hbx
  clear hco hco2 hcur hco1 hbx
  go_enter Tryd.func12, Tryd.ntmps12
  go_wp2_with fail
  clear hW0
  refine P1.out.mono ?_
  rintro e w1 ⟨y1, rfl, p0, p1, p2, hc1, hg1⟩
  have p3 := p2 (by omega)
  have HG1 := hide hg1
  have P2 := hide (pick_any _ _ _ (1 + y1) w1 hc1 (HCO.out.grown hg1) (by omega))
  have e1 : IntKind.i64.wrap (1 + y1) = 1 + y1 := by rw [IntKind.wrap_i64]; omega
  clear P1 hc1 hg1 p2
  go_wp2_with fail
  refine P2.out.mono ?_
  rintro e w2 ⟨y2, rfl, q0, q1, q2, hc2, hg2⟩
  have q3 := q2 (by omega)
  have HG2 := hide (HG1.out.trans hg2)
  have P3 := hide (drMarks_any _ _ _ (1 + y1) w2 hc2 (HCO.out.grown HG2.out) (by omega) (by omega) (by omega))
  clear P2 hc2 hg2 q2 HG1
  go_wp2_with fail
  refine P3.out.mono ?_
  rintro e w3 ⟨vm, Lm, rfl, hom, -, hlm, hsm, hc3, hg3⟩
  have HG3 := hide (HG2.out.trans hg3)
  have hs2 := HG2.out.size
  have hs3 := HG3.out.size
  obtain ⟨am, cm, rfl, -, -⟩ := own_shp hom
  have HM := hide (MrOwn.mono hom (by omega : w.heap.size + 2 ≤ w2.heap.size))
  have P4 := hide (pick_any _ _ _ 7 w3 hc3 (HCO.out.grown HG3.out) (by omega))
  clear P3 hc3 hg3 hom HG2
  go_wp2_with fail
  refine P4.out.mono ?_
  rintro e w4 ⟨y4, rfl, r0, r1, r2, hc4, hg4⟩
  have r3 := r2 (by omega)
  have HG4 := hide (HG3.out.trans hg4)
  have hs4 := HG4.out.size
  have HM4 := hide (own_grown HM.out hg4 (fun b hb' e => by have := (HM.out.lt b hb').1; have := Option.some.inj e; omega))
  have e2 : IntKind.i64.wrap (y2 + y4) = y2 + y4 := by rw [IntKind.wrap_i64]; omega
  have HOF := hide (of_any _ _ _ 8 w4.heap.size 0 4 4 _ (hc4.alloc (.cells (fourStyles.map Value.string).toArray 9)) ((HCO.out.grown HG4.out).alloc (.cells (fourStyles.map Value.string).toArray 9)) (by omega) (by omega) (texts_new w4 fourStyles 9 8 four_le) (by omega) (by omega) (by omega))
  clear P4 hc4 hg4 r2 HM HG3
  go_wp2_with fail
  refine HOF.out.mono ?_
  rintro e w5 ⟨t5, rfl, ht5, -, hg5⟩
  have hga := (World.grownBy_alloc w4 (.cells (fourStyles.map Value.string).toArray 9) (some (w.heap.size + 1))).trans hg5
  have HG5 := hide (HG4.out.trans hga)
  have HM5 := hide (own_grown HM4.out hga (fun b hb' e => by have := (HM4.out.lt b hb').1; have := Option.some.inj e; omega))
  have hbx5 := (HG5.out.block w.heap.size (by omega) (fun e => by have := Option.some.inj e; omega)).trans HBX.out
  have c0 := cell_of_row w5 w.heap.size 0 _ _ _ hbx5
  have c1 := cell_of_row w5 w.heap.size 1 _ _ _ hbx5
  have c2 := cell_of_row w5 w.heap.size 2 _ _ _ hbx5
  have f0 := frozen_of_row w5 w.heap.size 0 _ _ hbx5
  have f1 := frozen_of_row w5 w.heap.size 1 _ _ hbx5
  have f2 := frozen_of_row w5 w.heap.size 2 _ _ hbx5
  simp only [List.getElem?_toArray, List.getElem?_cons_zero, List.getElem?_cons_succ] at c0 c1 c2
  have hbx6 := heap_setCell_same _ w.heap.size 2 _ _ (.string t5) (heap_setCell_same _ w.heap.size 1 _ _ (.int .i64 (y2 + y4)) (heap_setCell_same w5 w.heap.size 0 _ _ (.int .i64 y2) hbx5))
  have hld := hide (run_loadVar_row (P := Tryd.prog) _ w.heap.size _ 34 _ _ _ hbx6 Tryd.underlying34 rfl (by kernel_rfl))
  have FB : ∀ k, k ≠ w.heap.size → (((w5.setCell ⟨w.heap.size, 0, none⟩ (.int .i64 y2)).setCell ⟨w.heap.size, 1, none⟩ (.int .i64 (y2 + y4))).setCell ⟨w.heap.size, 2, none⟩ (.string t5)).heap[k]? = w5.heap[k]? := fun k hk =>
    (Below.heap_setCell _ _ _ _ hk).trans ((Below.heap_setCell _ _ _ _ hk).trans (Below.heap_setCell _ _ _ _ hk))
  have HM6 := hide (MrOwn.mono (own_held HM5.out (fun x hx => FB x (by have := (HM5.out.lt x hx).1; omega))) (by omega : w.heap.size ≤ w.heap.size + 2))
  have HB6 : Hid (Below w.heap.size w (((w5.setCell ⟨w.heap.size, 0, none⟩ (.int .i64 y2)).setCell ⟨w.heap.size, 1, none⟩ (.int .i64 (y2 + y4))).setCell ⟨w.heap.size, 2, none⟩ (.string t5))) := hide (hb0.trans ⟨HG5.out.os, HG5.out.tape, HG5.out.output, by have := HG5.out.size; simpa using this, fun k hk => (FB k (by omega)).trans (HG5.out.block k (by omega) (fun e => by have := Option.some.inj e; omega))⟩)
  clear HOF hga HG4 HM4 HBX hbx5 hbx6 FB
  go_wp2
  refine bodyPost_ret (v := .tuple #[.slice am Lm.length cm, .int .i64 (1 + y1), .agg #[.int .i64 y2, .int .i64 (y2 + y4), .string t5]]) ?_ rfl ⟨_, Lm, 1 + y1, ⟨y2, y2 + y4, t5⟩, rfl, HM6.out, hlm, hsm, ⟨by omega, by omega⟩, ⟨q0, by show y2 ≤ 40; omega, by show y2 ≤ y2 + y4; omega, by show y2 + y4 ≤ 50; omega⟩, ht5, HB6.out⟩
  have h := hld.out
  simp [results, Tryd.results12, asAddr, Result.andThen, h]
end Go.Proofs.YtbooongkbninhaaDoor

namespace Go.Proofs.YtbooongkbninhaaDoor
open Go.RowKit
open Doc1

theorem sameMarks_zero (a b : Option Addr) (ca cb : Nat) (w : World) :
    Calls Tryd.prog 9 #[.slice a 0 ca, .slice b 0 cb] w fun e w' => e = .returned (.bool true) ∧ w' = w := by
  go_enter Tryd.func9, Tryd.ntmps9
  go_wp2
  go_loop [13] (fun i => i = .int .i64 0) (fun _ => 0)
  case atStart => rfl
  case round =>
    subst hrel
    go_wp2
    go_ret
    exact ⟨rfl, rfl⟩

set_option maxRecDepth 100000 in
set_option maxHeartbeats 1000000 in
theorem sameMarks_at (ga gb ca cb : Nat) (l : List Mk) (w : World) (hm : l.length ≤ 10000000) (_h1 : l.length ≤ ca ∧ ca ≤ maxLen) (_h2 : l.length ≤ cb ∧ cb ≤ maxLen) (ha : CLs w ga (encMr l)) (hb : CLs w gb (encMr l)) (hga : ga < w.heap.size) (hgb : gb < w.heap.size) :
    Calls Tryd.prog 9 #[.slice (some ⟨ga, 0, none⟩) l.length ca, .slice (some ⟨gb, 0, none⟩) l.length cb] w fun e w' => e = .returned (.bool true) ∧ Below w.heap.size w w' := by
  go_enter Tryd.func9, Tryd.ntmps9
  go_wp2
  go_loopw [13] (fun i wr => ∃ k : Nat, k ≤ l.length ∧ i = .int .i64 k ∧ Below w.heap.size w wr) (fun i _ => l.length - (intOf i).toNat)
  case atStart => exact ⟨0, by omega, rfl, Below.refl _ _⟩
  case round =>
    obtain ⟨k, hk, rfl, hbel⟩ := hrel
    by_cases hlt : k < l.length
    · obtain ⟨a0, a1, a2⟩ := (ha.later hbel hga).mrat k hlt
      obtain ⟨b0, b1, b2⟩ := (hb.later hbel hgb).mrat k hlt
      go_wp2
      go_quiet (fail)
      go_wp2
      go_roundw
      case rel => exact ⟨k + 1, by omega, by go_num, hbel.trans ⟨rfl, rfl, rfl, Nat.le_refl _, fun _ _ => rfl⟩⟩
      case measure => simp [intOf]; omega
    · go_wp2
      go_ret
      exact ⟨rfl, hbel⟩
/-- Two rows of one's own that hold the same marks. -/
theorem sameMarks_own {w : World} {A B : Nat} {u v : Value} {l : List Mk} (ha : MrOwn w A u l) (hb : MrOwn w B v l) (hm : l.length ≤ 10000000) :
    Calls Tryd.prog 9 #[u, v] w fun e w' => e = .returned (.bool true) ∧ Below w.heap.size w w' := by
  rcases Nat.eq_zero_or_pos l.length with h0 | h0
  · obtain ⟨a, ca, rfl, -, -⟩ := own_shp ha
    obtain ⟨b, cb, rfl, -, -⟩ := own_shp hb
    rw [h0]
    exact (sameMarks_zero a b ca cb w).mono fun e w' ⟨h1, h2⟩ => ⟨h1, h2 ▸ Below.refl _ _⟩
  · obtain ⟨ga, ca, rfl, a1, a2, -, a3, a4, -⟩ := own_cat ha h0
    obtain ⟨gb, cb, rfl, b1, b2, -, b3, b4, -⟩ := own_cat hb h0
    exact sameMarks_at ga gb ca cb l w hm ⟨a1, a2⟩ ⟨b1, b2⟩ a4 b4 a3 b3
end Go.Proofs.YtbooongkbninhaaDoor
