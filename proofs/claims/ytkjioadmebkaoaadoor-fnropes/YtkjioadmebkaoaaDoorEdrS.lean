/- Ropes that are edited: which pieces there are then. The model's EditRope. -/
import Derived.Test.YtkjioadmebkaoaaDoorRptS
import Derived.Test.YtkjioadmebkaoaaDoorOpSM
import Derived.Test.YtkjioadmebkaoaaDoorInv1
set_option linter.unusedVariables false
namespace Go.Proofs.YtkjioadmebkaoaaDoor
open Go.RowKit
open Doc1

theorem apE_gd {l : List Pt} {s : ByteArray} (h : (aplO l s).2 = true) : good (aplO l s).1.data.toList = true := by
  have u := (undo h).1
  exact (apl_yes (l := invO l) (s := (aplO l s).1) (by rw [u])).2.1
theorem apE_ap {l : List Pt} {s : ByteArray} (h1 : goodO l = true) (h2 : good s.data.toList = true) : (aplO l s).2 = (apO l s).2 := by
  unfold aplO
  cases h : (apO l s).2 with
  | false => rw [if_neg (by simp)]
  | true => rw [if_pos ⟨h1, h2, rfl⟩]
theorem apE_no {l : List Pt} {s : ByteArray} (h : goodO l = false) : (aplO l s).2 = false := by
  unfold aplO
  rw [h, if_neg (by simp)]
/-- What one part does to what is left and to the pieces. -/
def edK (p : Pt) (s : Option Lm × List ByteArray) : Option Lm × List ByteArray :=
  if pk p = 2 then (s.1, s.2 ++ cutL p.put) else if pk p = 1 then ((splO s.1 p.keep.toNat).2, s.2 ++ pcO (splO s.1 p.keep.toNat).1) else ((splO s.1 p.drop.size).2, s.2)
def edF (op : List Pt) (o : Option Lm) : Option Lm × List ByteArray := op.foldl (fun s p => edK p s) (o, [])
theorem edF_snoc (op : List Pt) (p : Pt) (o : Option Lm) : edF (op ++ [p]) o = edK p (edF op o) := by simp [edF]
theorem edF_succ {op : List Pt} {k : Nat} (h : k < op.length) (o : Option Lm) : edF (op.take (k + 1)) o = edK op[k] (edF (op.take k) o) := by
  rw [List.take_succ_eq_append_getElem h, edF_snoc]

theorem splO_gd (o : Option Lm) (n : Nat) (hn : n ≤ szO o) (hg : gdO o) : gdO (splO o n).1 ∧ gdO (splO o n).2 := by
  cases o with
  | none => exact ⟨hg, hg⟩
  | some t => exact spl_gd t n hn hg
theorem splO_sz (o : Option Lm) (n : Nat) (hn : n ≤ szO o) : szO (splO o n).1 = n ∧ szO (splO o n).2 = szO o - n := by
  cases o with
  | none => simp only [szO] at hn; simp [splO, szO]; omega
  | some t => exact spl_sz t n hn
theorem splO_nb (o : Option Lm) (n : Nat) : nbO (splO o n).1 ≤ nbO o ∧ nbO (splO o n).2 ≤ nbO o := by
  cases o with
  | none => simp [splO, nbO]
  | some t => exact spl_nb t n
theorem sz_of_nil {s : ByteArray} (h : s.data.toList = []) : s = ⟨#[]⟩ := by
  cases s with
  | mk a => simp at h; subst h; rfl
theorem tkL_pos : ∀ {l : List Pt}, (∀ p ∈ l, pk p ≠ 0) → 0 ≤ tkL l ∧ 0 ≤ mkL l
  | [], _ => by simp [tkL, mkL]
  | p :: l, h => by
    have h1 := pk_bd (h p (List.mem_cons_self))
    have h2 := tkL_pos (l := l) (fun x hx => h x (List.mem_cons_of_mem _ hx))
    simp only [tkL, mkL, List.map_cons, List.sum_cons] at h2 ⊢
    omega
theorem tkL_take {l : List Pt} (h : ∀ p ∈ l, pk p ≠ 0) (k : Nat) : tkL (l.take k) ≤ tkL l ∧ mkL (l.take k) ≤ mkL l := by
  have h1 := tkL_pos (l := l.drop k) (fun p hp => h p (List.mem_of_mem_drop hp))
  have e1 : tkL l = tkL (l.take k) + tkL (l.drop k) := by rw [← tkL_app, List.take_append_drop]
  have e2 : mkL l = mkL (l.take k) + mkL (l.drop k) := by rw [← mkL_app, List.take_append_drop]
  omega
theorem cut_gd {s : ByteArray} (h : good s.data.toList = true) : ∀ x ∈ cutL s, gpc x = true := by
  intro x hx
  unfold cutL at hx
  obtain ⟨i, hi, rfl⟩ := List.mem_map.1 hx
  have hi := List.mem_range.1 hi
  unfold cutN at hi
  unfold cutP
  have hl : (s.extract (8 * i) (min (8 * i + 8) s.size)).size = min (8 * i + 8) s.size - 8 * i := by rw [ByteArray.size_extract]; omega
  have hg : good (s.extract (8 * i) (min (8 * i + 8) s.size)).data.toList = true := good_of h (fun c hc => by rw [ext_list] at hc; exact List.mem_of_mem_take (List.mem_of_mem_drop hc)) (by rw [← szB, ← szB, hl]; omega)
  unfold gpc
  rw [hg, Bool.and_true, hl]
  simp
  omega
/-- While a rope is edited. -/
structure EdI (op : List Pt) (o : Option Lm) (k : Nat) (s : Option Lm × List ByteArray) : Prop where
  gd : gdO s.1
  nb : nbO s.1 ≤ 200
  sz : (szO s.1 : Int) = szO o - tkL (op.take k)
  pc : ∀ x ∈ s.2, gpc x = true
  tt : (tot s.2 : Int) = mkL (op.take k)
theorem edI_at {op : List Pt} {o : Option Lm} (hg : goodO op = true) (ht : tkL op = (szO o : Int)) (hgo : gdO o) (hnb : nbO o ≤ 200) : ∀ k, k ≤ op.length → EdI op o k (edF (op.take k) o)
  | 0, _ => ⟨hgo, hnb, by simp [edF, tkL], fun x hx => by simp [edF] at hx, by simp [edF, tot, mkL]⟩
  | k + 1, hk => by
    have ih := edI_at hg ht hgo hnb k (by omega)
    have hpk := goodO_pk hg
    have hk' : k < op.length := hk
    have hp := hpk op[k] (List.getElem_mem hk')
    rw [edF_succ hk']
    obtain ⟨s, hs⟩ : ∃ s, edF (op.take k) o = s := ⟨_, rfl⟩
    rw [hs] at ih ⊢
    have e1 : tkL (op.take (k + 1)) = tkL (op.take k) + tk1 op[k] := by rw [List.take_succ_eq_append_getElem hk', tkL_snoc]
    have e2 : mkL (op.take (k + 1)) = mkL (op.take k) + mk1 op[k] := by rw [List.take_succ_eq_append_getElem hk', mkL_snoc]
    have hle := (tkL_take hpk (k + 1)).1
    have hb := pk_bd hp
    have hsz := ih.sz
    have htt := ih.tt
    obtain ⟨p, hpe⟩ : ∃ p, op[k] = p := ⟨_, rfl⟩
    rw [hpe] at hp e1 e2 hb ⊢
    unfold tk1 at e1 hb
    unfold mk1 at e2 hb
    unfold edK
    by_cases k2 : pk p = 2
    · rw [if_pos k2]
      have hc : p.keep = 0 ∧ p.drop.data.toList = [] ∧ p.put.data.toList ≠ [] ∧ good p.put.data.toList = true := by
        unfold pk at k2
        split at k2
        · omega
        · split at k2
          · assumption
          · split at k2 <;> omega
      have hd : p.drop.size = 0 := by rw [sz_of_nil hc.2.1]; rfl
      refine ⟨ih.gd, ih.nb, by rw [e1]; simp only; omega, fun x hx => ?_, ?_⟩
      · rcases List.mem_append.1 hx with hx | hx
        · exact ih.pc x hx
        · exact cut_gd hc.2.2.2 x hx
      · simp only [tot_app, tot_cut]; rw [e2]; push_cast; omega
    · rw [if_neg k2]
      by_cases k1 : pk p = 1
      · rw [if_pos k1]
        have hc : p.put.data.toList = [] ∧ p.drop.data.toList = [] ∧ 1 ≤ p.keep ∧ p.keep ≤ 300 := by
          unfold pk at k1
          split at k1
          · assumption
          · split at k1
            · omega
            · split at k1 <;> omega
        have hd : p.drop.size = 0 := by rw [sz_of_nil hc.2.1]; rfl
        have hpu : p.put.size = 0 := by rw [sz_of_nil hc.1]; rfl
        have hn : p.keep.toNat ≤ szO s.1 := by omega
        have g1 := splO_gd s.1 p.keep.toNat hn ih.gd
        have g2 := splO_sz s.1 p.keep.toNat hn
        have g3 := splO_nb s.1 p.keep.toNat
        refine ⟨g1.2, by have := ih.nb; simp only; omega, by rw [e1]; simp only; omega, fun x hx => ?_, ?_⟩
        · rcases List.mem_append.1 hx with hx | hx
          · exact ih.pc x hx
          · exact g1.1 x hx
        · simp only [tot_app, pcO_tot]; rw [e2, g2.1]; push_cast; omega
      · rw [if_neg k1]
        have hc : p.keep = 0 ∧ p.put.data.toList = [] := by
          unfold pk at hp k1 k2
          split at hp
          · simp_all
          · split at hp
            · simp_all
            · split at hp
              · rename_i hh; exact ⟨hh.1, hh.2.1⟩
              · exact absurd rfl hp
        have hpu : p.put.size = 0 := by rw [sz_of_nil hc.2]; rfl
        have hn : p.drop.size ≤ szO s.1 := by omega
        have g1 := splO_gd s.1 p.drop.size hn ih.gd
        have g2 := splO_sz s.1 p.drop.size hn
        have g3 := splO_nb s.1 p.drop.size
        exact ⟨g1.2, by have := ih.nb; simp only; omega, by rw [e1]; simp only; omega, ih.pc, by rw [e2]; simp only; omega⟩
theorem pcs_few {l : List ByteArray} (h : ∀ x ∈ l, gpc x = true) : l.length ≤ tot l := by
  induction l with
  | nil => simp
  | cons s l ih =>
    have h1 := (gpc_bd (h s (List.mem_cons_self))).1
    have h2 := ih (fun x hx => h x (List.mem_cons_of_mem _ hx))
    simp only [List.length_cons, tot, List.map_cons, List.sum_cons] at h2 ⊢
    omega
theorem cat_good {l : List ByteArray} (h : ∀ x ∈ l, gpc x = true) (ht : tot l ≤ 300) : good (catB l).data.toList = true := by
  have h1 : (catB l).data.toList.length ≤ 300 := by rw [← szB, catB_size]; exact ht
  unfold good
  rw [decide_eq_true h1, Bool.and_true]
  unfold allOk
  rw [List.all_eq_true]
  intro c hc
  rw [catB_list] at hc
  obtain ⟨x, hx, hcx⟩ := List.mem_flatten.1 hc
  obtain ⟨s, hs, rfl⟩ := List.mem_map.1 hx
  have hg := gpc_good (h s hs)
  unfold good allOk at hg
  simp only [Bool.and_eq_true] at hg
  exact List.all_eq_true.1 hg.1 c hcx
theorem rt_text {l : List Bg} (h : rtB l = true) : gdO (rtO l) ∧ nbO (rtO l) ≤ 200 ∧ szO (rtO l) ≤ 300 ∧ good (catB (pcO (rtO l))).data.toList = true ∧ (catB (pcO (rtO l))).size = szO (rtO l) := by
  obtain ⟨-, h1, h2, h3⟩ := RO_bo (rtO_ro h)
  refine ⟨h1, h2, h3, cat_good h1 (by rw [pcO_tot]; exact h3), by rw [catB_size, pcO_tot]⟩
theorem pk_two {p : Pt} (k2 : pk p = 2) : p.keep = 0 ∧ p.drop.data.toList = [] ∧ p.put.data.toList ≠ [] ∧ good p.put.data.toList = true := by
  unfold pk at k2
  split at k2
  · omega
  · split at k2
    · assumption
    · split at k2 <;> omega
theorem pk_one {p : Pt} (k1 : pk p = 1) : p.put.data.toList = [] ∧ p.drop.data.toList = [] ∧ 1 ≤ p.keep ∧ p.keep ≤ 300 := by
  unfold pk at k1
  split at k1
  · assumption
  · split at k1
    · omega
    · split at k1 <;> omega
theorem pk_three {p : Pt} (hp : pk p ≠ 0) (k1 : pk p ≠ 1) (k2 : pk p ≠ 2) : p.keep = 0 ∧ p.put.data.toList = [] := by
  unfold pk at hp k1 k2
  split at hp
  · simp_all
  · split at hp
    · simp_all
    · split at hp
      · rename_i hh; exact ⟨hh.1, hh.2.1⟩
      · exact absurd rfl hp
theorem tot_two {a b : List ByteArray} (ha : ∀ x ∈ a, gpc x = true) (hb : ∀ x ∈ b, gpc x = true) (h : tot a + tot b ≤ 300) (m : Nat) : (a ++ b.take m).length ≤ 700 ∧ tot (a ++ b.take m) ≤ 300 := by
  have h1 := tot_take_drop b m
  have h2 : tot (a ++ b.take m) ≤ 300 := by rw [tot_app]; omega
  have h3 := pcs_few (l := a ++ b.take m) (fun x hx => (List.mem_append.1 hx).elim (ha x) (fun c => hb x (List.mem_of_mem_take c)))
  omega
theorem ed_le {op : List Pt} {o : Option Lm} {k : Nat} {s s2 : Option Lm × List ByteArray} (hpk : ∀ p ∈ op, pk p ≠ 0) (hk : k < op.length) (h : EdI op o k s) (h2 : EdI op o (k + 1) s2) : tk1 op[k] ≤ (szO s.1 : Int) ∧ szO s.1 ≤ szO o := by
  have e1 : tkL (op.take (k + 1)) = tkL (op.take k) + tk1 op[k] := by rw [List.take_succ_eq_append_getElem hk, tkL_snoc]
  have h3 := (tkL_pos (l := op.take k) (fun p hp => hpk p (List.mem_of_mem_take hp))).1
  have h4 := h.sz
  have h5 := h2.sz
  omega
theorem ed_fin {op : List Pt} {o : Option Lm} {s : Option Lm × List ByteArray} (h : EdI op o op.length s) (hm : mkL op ≤ 300) : gdO (inRow s.2) ∧ nbO (inRow s.2) ≤ 700 ∧ szO (inRow s.2) ≤ 300 := by
  have h1 := pcs_few h.pc
  have h2 := h.tt
  rw [List.take_length] at h2
  refine ⟨fun x hx => h.pc x (by rw [inRow_pc] at hx; exact hx), by rw [nbO_row]; omega, by rw [szO_row]; omega⟩
theorem inn_rin {w : World} {B : Nat} {v : Value} {o : Option Lm} (h : BoOwn w B v (bo o)) (hg : gdO o) (hn : nbO o ≤ 700) : ∃ a cap, v = .slice a (bo o).length cap ∧ RIn w a cap (bo o) := by
  obtain ⟨a, cap, e, hi⟩ := h.inn
  exact ⟨a, cap, e, hi, by rw [bo_len]; omega, bo_txt hg⟩
/-- A rope that is edited. -/
noncomputable def edO (l : List Bg) (op : List Pt) : Option Lm := inRow (edF op (rtO l)).2
noncomputable def edQ (l : List Bg) (op : List Pt) : Bool := rtB l && (aplO op (catB (pcO (rtO l)))).2
noncomputable def edL (l : List Bg) (op : List Pt) : List Bg := if edQ l op then okB (edO l op) else []
noncomputable def edB (l : List Bg) (op : List Pt) : Bool := edQ l op && fit (edO l op)
end Go.Proofs.YtkjioadmebkaoaaDoor

set_option linter.unusedVariables false
namespace Go.Proofs.YtkjioadmebkaoaaDoor
open Go.RowKit
open Doc1

set_option maxRecDepth 100000 in
set_option maxHeartbeats 8000000 in
theorem editS {w : World} {a : Option Addr} {cap : Nat} {l : List Bg} {ao : Option Addr} {g co : Nat} {op : List Pt} (h : RIn w a cap l) (hp : Pin w ao g co op) :
    Calls Tryd.prog 25 #[.agg #[.slice a l.length cap], .slice ao op.length co] w (RpPost w (edL l op) (edB l op)) := by
  obtain ⟨w1, hw1⟩ : ∃ w1, w1 = (w.alloc (.cells #[.slice a l.length cap] 26)).alloc (.cells #[.slice none 0 0] 26) := ⟨_, rfl⟩
  obtain ⟨hs1, hb1, hc1, hc2⟩ := boxes2 w (.slice a l.length cap) (.slice none 0 0)
  rw [← hw1] at hs1 hb1 hc1 hc2
  have G := hide (goodRopeS (h.later hb1))
  have GO : Hid (∀ w', Below w1.heap.size w1 w' → _) := hide (fun w' (hb : Below w1.heap.size w1 w') => goodOpS ((hp.later hb1).later hb))
  have HR := hide (h.later hb1)
  have HP := hide (hp.later hb1)
  have HB1 := hide hb1
  have HC1 := hide hc1
  have HC2 := hide hc2
  have hcap := hp.cap
  have hlen := hp.len
  unfold RpPost
  clear h hp hb1 hc1 hc2
  have Z : Hid (∀ w', Below w1.heap.size w1 w' → CellR w' (w.heap.size + 1) (.slice none 0 0) ∧ Below w.heap.size w (w'.setCell ⟨w.heap.size + 1, 0, none⟩ (.slice none 0 0))) := hide (fun w' hb => ⟨HC2.out.later hb, (HB1.out.trans (hb.mono HB1.out.size)).setCell (by show w.heap.size ≤ w.heap.size + 1; omega) _⟩)
  cases hrt : rtB l with
  | false =>
    have hq : edQ l op = false := by unfold edQ; rw [hrt]; rfl
    have hL : edL l op = [] := by unfold edL; rw [hq]; rfl
    have hB : edB l op = false := by unfold edB; rw [hq]; rfl
    rw [hL, hB]
    rw [hrt] at G
    clear hq hL hB GO hrt
    go_enter Tryd.func25, Tryd.ntmps25
    go_wp2_with fail
    rw [← hw1]
    clear hw1
    refine G.out.mono ?_
    rintro e w2 ⟨rfl, hb2⟩
    obtain ⟨hd, hbz⟩ := Z.out w2 hb2
    have HD := hide hd
    have HE := hide hbz
    have hc := HD.out.cell
    have hf := HD.out.fz
    clear hb2 hd hbz
    go_wp2
    refine bodyPost_ret (results_cell_tmp rfl _ _ (w.heap.size + 1) 26 _ (0, 0) _ (.bool false) rfl rfl (HD.out.put _) Tryd.underlying26 rfl Tryd.sizeRope) rfl ?_
    exact ⟨_, rfl, World.ownsRow_nil _ _ _ _, HE.out⟩
  | true =>
    rw [hrt] at G
    obtain ⟨hgd, hnb, hsz, hgt, hcs⟩ := rt_text hrt
    have hbo := rt_bo hrt
    have hll := rt_len hrt
    cases hgo : goodO op with
    | false =>
      have hq : edQ l op = false := by unfold edQ; rw [apE_no hgo, Bool.and_false]
      have hL : edL l op = [] := by unfold edL; rw [hq]; rfl
      have hB : edB l op = false := by unfold edB; rw [hq]; rfl
      rw [hL, hB]
      rw [hgo] at GO
      clear hq hL hB hrt hgo hbo
      go_enter Tryd.func25, Tryd.ntmps25
      go_wp2_with fail
      rw [← hw1]
      clear hw1
      refine G.out.mono ?_
      rintro e w2 ⟨rfl, hb2⟩
      have GO2 := hide (GO.out w2 hb2)
      clear GO G
      go_wp2_with fail
      refine GO2.out.mono ?_
      rintro e w3 ⟨rfl, hb3⟩
      obtain ⟨hd, hbz⟩ := Z.out w3 (hb2.trans (hb3.mono hb2.size))
      have HD := hide hd
      have HE := hide hbz
      have hc := HD.out.cell
      have hf := HD.out.fz
      clear hb2 hb3 hd hbz
      go_wp2
      refine bodyPost_ret (results_cell_tmp rfl _ _ (w.heap.size + 1) 26 _ (0, 0) _ (.bool false) rfl rfl (HD.out.put _) Tryd.underlying26 rfl Tryd.sizeRope) rfl ?_
      exact ⟨_, rfl, World.ownsRow_nil _ _ _ _, HE.out⟩
    | true =>
      have hap1 := apE_ap hgo hgt
      rw [hgo] at GO
      obtain ⟨o, ho⟩ : ∃ o, rtO l = o := ⟨_, rfl⟩
      have hpcs : pcsL l = pcO o := by rw [rt_pcs hrt, ho]
      rw [ho] at hgd hnb hsz hgt hcs hbo hap1
      have TX : Hid (∀ w', Below w1.heap.size w1 w' → _) := hide (fun w' (hb : Below w1.heap.size w1 w') => l12Text_any (HR.out.inn.later hb) (by omega) (by rw [hpcs, pcO_tot]; omega))
      rw [hpcs] at TX
      obtain ⟨t, hte⟩ : ∃ t, catB (pcO o) = t := ⟨_, rfl⟩
      rw [hte] at TX hgt hcs hap1
      have AP : Hid (∀ w', Below w1.heap.size w1 w' → _) := hide (fun w' (hb : Below w1.heap.size w1 w') => l3Apply_any t (HP.out.later hb) (goodO_le hgo).1 (goodO_pk hgo) (by omega))
      have HQ : Hid (edQ l op = (apO op t).2) := hide (by unfold edQ; rw [hrt, ho, hte, hap1]; rfl)
      cases hok : (apO op t).2 with
      | false =>
        have hq : edQ l op = false := by rw [HQ.out, hok]
        have hL : edL l op = [] := by unfold edL; rw [hq]; rfl
        have hB : edB l op = false := by unfold edB; rw [hq]; rfl
        rw [hL, hB]
        rw [hok] at AP
        clear hq hL hB hrt hgo hbo hap1 hok HQ hgt hte hpcs hgd ho
        go_enter Tryd.func25, Tryd.ntmps25
        go_wp2_with fail
        rw [← hw1]
        clear hw1
        refine G.out.mono ?_
        rintro e w2 ⟨rfl, hb2⟩
        have GO2 := hide (GO.out w2 hb2)
        clear GO G
        go_wp2_with fail
        refine GO2.out.mono ?_
        rintro e w3 ⟨rfl, hb3⟩
        have hbb := hb2.trans (hb3.mono hb2.size)
        have q1 := (HC1.out.later hbb).cell
        have TX3 := hide (TX.out w3 hbb)
        have HBB := hide hbb
        clear hb2 hb3 hbb TX GO2
        go_wp2_with fail
        refine TX3.out.mono ?_
        rintro e w4 ⟨rfl, hb4⟩
        have HB4 := hide (HBB.out.trans (hb4.mono HBB.out.size))
        have AP4 := hide (AP.out w4 HB4.out)
        clear hb4 HBB TX3 AP q1
        go_wp2_with fail
        refine AP4.out.mono ?_
        rintro e w5 ⟨rfl, hb5⟩
        obtain ⟨hd, hbz⟩ := Z.out w5 (HB4.out.trans (hb5.mono HB4.out.size))
        have HD := hide hd
        have HE := hide hbz
        have hc := HD.out.cell
        have hf := HD.out.fz
        clear hb5 hd hbz AP4
        go_wp2
        refine bodyPost_ret (results_cell_tmp rfl _ _ (w.heap.size + 1) 26 _ (0, 0) _ (.bool false) rfl rfl (HD.out.put _) Tryd.underlying26 rfl Tryd.sizeRope) rfl ?_
        exact ⟨_, rfl, World.ownsRow_nil _ _ _ _, HE.out⟩
      | true =>
        have hq : edQ l op = true := by rw [HQ.out, hok]
        have hL : edL l op = okB (edO l op) := by unfold edL; rw [hq]; rfl
        have hB : edB l op = fit (edO l op) := by unfold edB; rw [hq]; rfl
        have hO : edO l op = inRow (edF op o).2 := by unfold edO; rw [ho]
        rw [hL, hB, hO]
        rw [hok] at AP
        have htk : tkL op = (szO o : Int) := by
          have h1 : (aplO op t).2 = true := by rw [hap1, hok]
          have h2 := (apl_yes h1).2.2.1
          rw [← h2, hcs]
        have EI := hide (edI_at hgo htk hgd hnb)
        have hpk := goodO_pk hgo
        have HPK := hide hpk
        have hmk := (goodO_le hgo).2.2
        have HMK := hide (fun k => (tkL_take hpk k).2)
        have HBO0 := hide hbo
        have HSZ : Hid (szO o ≤ 300) := hide hsz
        clear hq hL hB hO hrt hgo hap1 hok HQ hgt hte hpcs hgd hcs htk hpk ho hbo
        go_enter Tryd.func25, Tryd.ntmps25
        go_wp2_with fail
        rw [← hw1]
        clear hw1
        refine G.out.mono ?_
        rintro e w2 ⟨rfl, hb2⟩
        have GO2 := hide (GO.out w2 hb2)
        clear GO G
        go_wp2_with fail
        refine GO2.out.mono ?_
        rintro e w3 ⟨rfl, hb3⟩
        have hbb := hb2.trans (hb3.mono hb2.size)
        have q1 := (HC1.out.later hbb).cell
        have TX3 := hide (TX.out w3 hbb)
        have HBB := hide hbb
        clear hb2 hb3 hbb TX GO2
        go_wp2_with fail
        refine TX3.out.mono ?_
        rintro e w4 ⟨rfl, hb4⟩
        have HB4 := hide (HBB.out.trans (hb4.mono HBB.out.size))
        have AP4 := hide (AP.out w4 HB4.out)
        clear hb4 HBB TX3 AP q1
        go_wp2_with fail
        refine AP4.out.mono ?_
        rintro e w5 ⟨rfl, hb5⟩
        have HB5 := hide (HB4.out.trans (hb5.mono HB4.out.size))
        have q1 := (HC1.out.later HB5.out).cell
        clear hb5 AP4
        go_wp2
        go_loopw [8, 9, 43] (fun v8 v9 i wr => ∃ (k : Nat) (a8 : Option Addr) (c8 : Nat) (a9 : Option Addr) (c9 : Nat), k ≤ op.length ∧ i = .int .i64 k ∧ v8 = .slice a8 (bo (edF (op.take k) o).1).length c8 ∧ v9 = .slice a9 (bo (inRow (edF (op.take k) o).2)).length c9 ∧ Hid (BoIn wr a8 c8 (bo (edF (op.take k) o).1)) ∧ Hid (BoIn wr a9 c9 (bo (inRow (edF (op.take k) o).2))) ∧ Below w1.heap.size w1 wr) (fun _ _ i _ => op.length - (intOf i).toNat)
        case atStart =>
          refine ⟨0, a, cap, none, 0, Nat.zero_le _, rfl, ?_, rfl, hide ?_, hide (BoIn.nil _ _ _ (by unfold maxLen; omega)), HB5.out⟩
          · rw [HBO0.out]; rfl
          · have := HR.out.inn.later HB5.out
            rw [HBO0.out] at this
            exact this
        case round =>
          obtain ⟨k, a8, c8, a9, c9, hk, rfl, rfl, rfl, H8, H9, hbel⟩ := hrel
          by_cases hlt : k < op.length
          · have ei := EI.out k hk
            have hstep := edF_succ hlt o
            have hpp := HPK.out op[k] (List.getElem_mem hlt)
            have hadr := HP.out.adr hlt
            obtain ⟨d0, d1, d2⟩ := ((HP.out.later hbel).at').ptat k hlt
            have hps := HP.out.sz k hlt
            have hmk1 := HMK.out k
            have hei2 := (EI.out (k + 1) hlt)
            obtain ⟨s, hse⟩ : ∃ s, edF (op.take k) o = s := ⟨_, rfl⟩
            rw [hse] at ei hstep H8 H9
            rw [hse]
            rw [hstep] at hei2
            have hmk2 := HMK.out (k + 1)
            have hle := ed_le HPK.out hlt ei hei2
            have hso := HSZ.out
            obtain ⟨p, hpe⟩ : ∃ p, op[k] = p := ⟨_, rfl⟩
            rw [hpe] at hpp d0 d1 d2 hps hstep hei2 hle
            unfold tk1 at hle
            subst hadr
            have HST := hide hstep
            have HEI := hide ei
            have HEI2 := hide hei2
            have hsl : s.2.length ≤ 300 := by
              have q1 := pcs_few ei.pc
              have q2 := ei.tt
              omega
            clear hse hpe hstep ei hei2
            obtain ⟨W0, hW0⟩ : ∃ W0, W0 = wr.alloc (.cells #[.int .i64 p.keep, .string p.put, .string p.drop] 136) := ⟨_, rfl⟩
            have hkb : Below wr.heap.size wr W0 := by rw [hW0]; exact (Below.refl _ _).alloc (Nat.le_refl _) _
            have hcb : ∀ w', Below W0.heap.size W0 w' → w'.cell? ⟨wr.heap.size, 0, none⟩ = some (.int .i64 p.keep) ∧ w'.cell? ⟨wr.heap.size, 1, none⟩ = some (.string p.put) ∧ w'.cell? ⟨wr.heap.size, 2, none⟩ = some (.string p.drop) := by
              intro w' hb
              have hnew : W0.heap[wr.heap.size]? = some (.cells #[.int .i64 p.keep, .string p.put, .string p.drop] 136) := by rw [hW0]; exact heap_alloc_new wr _
              have hl0 : wr.heap.size < W0.heap.size := by rw [hW0]; simp
              have hh := (hb.block wr.heap.size hl0).trans hnew
              exact ⟨by rw [cell_of_row _ _ 0 _ _ (0, 0) hh]; rfl, by rw [cell_of_row _ _ 1 _ _ (0, 0) hh]; rfl, by rw [cell_of_row _ _ 2 _ _ (0, 0) hh]; rfl⟩
            have KC := hide hcb
            have HW := hide (hbel.trans (hkb.mono hbel.size))
            have HR8 := hide (H8.out.later hkb)
            have HR9 := hide (H9.out.later hkb)
            have e1 := emp_b p.put
            clear hcb hkb hbel H8 H9
            by_cases k2 : pk p = 2
            · skip
              have hc : p.keep = 0 ∧ p.drop.data.toList = [] ∧ p.put.data.toList ≠ [] ∧ good p.put.data.toList = true := pk_two k2
              have hput : p.put.size ≤ 300 := by have := good_len hc.2.2.2; rw [szB]; exact this
              rw [decide_eq_false hc.2.2.1] at e1
              have CU := hide (l12Cut_any p.put W0 (by omega))
              have HPC := hide (cut_gd hc.2.2.2)
              have hts := tot_cut p.put
              obtain ⟨P, hP⟩ : ∃ P, cutL p.put = P := ⟨_, rfl⟩
              rw [hP] at CU HPC hts
              have HTOT : Hid (∀ m, (s.2 ++ P.take m).length ≤ 700 ∧ tot (s.2 ++ P.take m) ≤ 300) := hide (fun m => tot_two HEI.out.pc HPC.out (by
                have q1 := HEI2.out.tt
                have q2 : edK p s = (s.1, s.2 ++ P) := by rw [← hP]; unfold edK; rw [if_pos k2]
                rw [q2] at q1
                simp only [tot_app] at q1
                omega) m)
              have HN1 : Hid ((edF (op.take (k + 1)) o).1 = s.1) := hide (by rw [HST.out]; unfold edK; rw [if_pos k2])
              have HN2 : Hid (inRow (s.2 ++ P) = inRow (edF (op.take (k + 1)) o).2) := hide (by rw [HST.out]; unfold edK; rw [if_pos k2, hP])
              have HE1 := hide e1
              rw [hW0] at CU
              have kc0 := KC.out W0 (Below.refl _ _)
              rw [hW0] at kc0
              obtain ⟨kc1, kc2, kc3⟩ := kc0
              clear hc hput hP hts hpp hmk1 hmk2
              go_wp2_with fail
              refine CU.out.mono ?_
              rintro e wt ⟨vt, rfl, htx, hbt⟩
              rw [← hW0] at hbt
              obtain ⟨at1, ct1, rfl, ht1, ht2, htc⟩ := htx.at'
              have HTX := hide htc
              have HOT := hide (HR9.out.later hbt)
              have HRT := hide (HR8.out.later hbt)
              have HW0 := hide (HW.out.trans (hbt.mono HW.out.size))
              clear htx hbt htc CU kc1 kc2 kc3 d0 d1 d2
              unfold maxLen at ht2
              go_wp2
              go_loopw [9, 54] (fun o9 j wx => ∃ (m : Nat) (ax : Option Addr) (cx : Nat), m ≤ P.length ∧ j = .int .i64 m ∧ o9 = .slice ax (bo (inRow (s.2 ++ P.take m))).length cx ∧ Hid (BoIn wx ax cx (bo (inRow (s.2 ++ P.take m)))) ∧ Below wt.heap.size wt wx) (fun _ j _ => P.length - (intOf j).toNat)
              case atStart => exact ⟨0, _, _, Nat.zero_le _, rfl, by rw [List.take_zero, List.append_nil], hide (by rw [List.take_zero, List.append_nil]; exact HOT.out), Below.refl _ _⟩
              case round =>
                obtain ⟨m, ax, cx, hm, rfl, rfl, HBO, hbx⟩ := hrel
                by_cases hmlt : m < P.length
                · obtain ⟨gx, rfl, hgx, cxx⟩ := HTX.out m hmlt
                  have dx := (World.cell?_of_block (a := ⟨gx, m, none⟩) (hbx.block gx hgx)).trans cxx
                  have hmem := HPC.out _ (List.getElem_mem hmlt)
                  have PI := hide (fun w' => l12Piece_any P[m] w' (by have := (gpc_bd hmem).2; omega))
                  have hnx : inRow (s.2 ++ P.take (m + 1)) = jo (inRow (s.2 ++ P.take m)) (some (.pc P[m])) := by rw [List.take_succ_eq_append_getElem hmlt, ← List.append_assoc, inRow_snoc]
                  have hbd : nbO (inRow (s.2 ++ P.take m)) ≤ 2000 ∧ szO (inRow (s.2 ++ P.take m)) ≤ 300 := by
                    have q1 := HTOT.out m
                    rw [nbO_row, szO_row]
                    omega
                  have hp8 := (gpc_bd hmem).2
                  have HNX := hide hnx
                  obtain ⟨X, hX⟩ : ∃ X, inRow (s.2 ++ P.take m) = X := ⟨_, rfl⟩
                  rw [hX] at HBO HNX hbd
                  rw [hX]
                  clear cxx hnx hmem hX
                  go_wp2_with fail
                  refine (PI.out _).mono ?_
                  rintro e wp hop
                  obtain ⟨ap, cp, rfl, hbp, hkp⟩ := hop.bi
                  have JN := hide (l12Join_any X (some (.pc P[m])) ax ap cx cp wp (HBO.out.later hkp) hbp (by show nbO X + 1 ≤ 10000; omega) (by show szO X + P[m].size ≤ 1000000; omega))
                  have HKP := hide (hbx.trans (hkp.mono hbx.size))
                  rw [← HNX.out] at JN
                  clear hop hbp hkp PI dx HBO
                  go_wp2_with fail
                  refine JN.out.mono ?_
                  rintro e wq ⟨aq, cq, rfl, hbq, hkq⟩
                  have HBQ := hide hbq
                  have HKQ := hide (HKP.out.trans (hkq.mono HKP.out.size))
                  clear hbq hkq JN
                  go_wp2
                  exact ⟨⟨m + 1, aq, cq, by omega, by go_num, rfl, HBQ, HKQ.out⟩, by simp [intOf]; omega⟩
                · obtain rfl : m = P.length := by omega
                  rw [List.take_length] at HBO
                  rw [List.take_length]
                  have HBF := hide (HW0.out.trans (hbx.mono HW0.out.size))
                  have HRF := hide (HRT.out.later hbx)
                  clear hbx
                  rw [HN2.out] at HBO
                  rw [HN2.out]
                  go_wp2
                  exact ⟨⟨k + 1, _, _, _, _, by omega, by go_num, by rw [HN1.out], rfl, hide (by rw [HN1.out]; exact HRF.out), HBO, HBF.out⟩, by simp [intOf]; omega⟩
            · by_cases k1 : pk p = 1
              · skip
                have hc := pk_one k1
                have hd0 : p.drop.size = 0 := by rw [sz_of_nil hc.2.1]; rfl
                obtain ⟨n, hn⟩ : ∃ n, p.keep.toNat = n := ⟨_, rfl⟩
                have hkn : p.keep = (n : Int) := by omega
                have hn300 : n ≤ 300 := by omega
                rw [hkn] at hW0
                have hk0 : ((n : Int) == 0) = false := by simp; omega
                have hk00 : ¬ ((n : Int) = 0) := by omega
                have hk01 : ¬ (n = 0) := by omega
                rw [decide_eq_true hc.1] at e1
                have hnl : n ≤ szO s.1 := by omega
                have hed : edK p s = ((splO s.1 n).2, s.2 ++ pcO (splO s.1 n).1) := by unfold edK; rw [if_neg k2, if_pos k1, hn]
                have SP := hide (l12Split_opt s.1 n a8 c8 W0 HR8.out hnl HEI.out.gd HEI.out.nb (by omega))
                have hg1 := splO_gd s.1 n hnl HEI.out.gd
                have hg3 := splO_nb s.1 n
                have hnb1 := HEI.out.nb
                obtain ⟨Y1, hY1⟩ : ∃ Y1, (splO s.1 n).1 = Y1 := ⟨_, rfl⟩
                obtain ⟨Y2, hY2⟩ : ∃ Y2, (splO s.1 n).2 = Y2 := ⟨_, rfl⟩
                rw [hY1, hY2] at SP hed
                rw [hY1] at hg1 hg3
                have hyl : (bo Y1).length ≤ 100000 := by rw [bo_len]; omega
                obtain ⟨P, hP⟩ : ∃ P, pcO Y1 = P := ⟨_, rfl⟩
                have HPP : Hid (pcsL (bo Y1) = P) := hide (by rw [pcsL_bo, hP])
                have HPC : Hid (∀ x ∈ P, gpc x = true) := hide (by rw [← hP]; exact hg1.1)
                rw [hP] at hed
                have HTOT : Hid (∀ m, (s.2 ++ P.take m).length ≤ 700 ∧ tot (s.2 ++ P.take m) ≤ 300) := hide (fun m => tot_two HEI.out.pc HPC.out (by
                  have q1 := HEI2.out.tt
                  rw [hed] at q1
                  simp only [tot_app] at q1
                  omega) m)
                have HN1 : Hid ((edF (op.take (k + 1)) o).1 = Y2) := hide (by rw [HST.out, hed])
                have HN2 : Hid (inRow (s.2 ++ P) = inRow (edF (op.take (k + 1)) o).2) := hide (by rw [HST.out, hed])
                rw [hW0] at SP
                have kc0 := KC.out W0 (Below.refl _ _)
                rw [hW0] at kc0
                rw [hkn] at kc0
                obtain ⟨kc1, kc2, kc3⟩ := kc0
                have HY := hide hyl
                obtain ⟨L8, hL8⟩ : ∃ L8, (bo s.1).length = L8 := ⟨_, rfl⟩
                obtain ⟨LA, hLA⟩ : ∃ LA, (bo Y1).length = LA := ⟨_, rfl⟩
                unfold SqPost at SP
                rw [hLA] at SP
                have HLA := hide hLA
                clear hc hpp hmk1 hmk2 hle hso hn hnl hed hg1 hg3 hnb1 hY1 hY2 hyl hP hL8 hLA
                go_wp2_with fail
                refine SP.out.mono ?_
                rintro e wz ⟨aa, ca, ab, cb, rfl, hba, hbb, hbz⟩
                rw [← hW0] at hbz
                have kd0 := KC.out wz hbz
                rw [hkn] at kd0
                obtain ⟨kd1, kd2, kd3⟩ := kd0
                have PZ := hide (l12Pieces_any hba HY.out)
                rw [HPP.out, HLA.out] at PZ
                have HR9z := hide (HR9.out.later hbz)
                have HBBz := hide hbb
                have HWz := hide (HW.out.trans (hbz.mono HW.out.size))
                clear SP kc1 kc2 kc3 d0 d1 d2 hba hbb hbz
                go_wp2_with fail
                refine PZ.out.mono ?_
                rintro e wt ⟨vt, rfl, htx, hbt⟩
                obtain ⟨at1, ct1, rfl, ht1, ht2, htc⟩ := htx.at'
                have HTX := hide htc
                have HOT := hide (HR9z.out.later hbt)
                have HRT := hide (HBBz.out.later hbt)
                have HW0 := hide (HWz.out.trans (hbt.mono HWz.out.size))
                clear htx hbt htc PZ kd1 kd2 kd3
                unfold maxLen at ht2
                go_wp2
                go_loopw [9, 81] (fun o9 j wx => ∃ (m : Nat) (ax : Option Addr) (cx : Nat), m ≤ P.length ∧ j = .int .i64 m ∧ o9 = .slice ax (bo (inRow (s.2 ++ P.take m))).length cx ∧ Hid (BoIn wx ax cx (bo (inRow (s.2 ++ P.take m)))) ∧ Below wt.heap.size wt wx) (fun _ j _ => P.length - (intOf j).toNat)
                case atStart => exact ⟨0, _, _, Nat.zero_le _, rfl, by rw [List.take_zero, List.append_nil], hide (by rw [List.take_zero, List.append_nil]; exact HOT.out), Below.refl _ _⟩
                case round =>
                  obtain ⟨m, ax, cx, hm, rfl, rfl, HBO, hbx⟩ := hrel
                  by_cases hmlt : m < P.length
                  · obtain ⟨gx, rfl, hgx, cxx⟩ := HTX.out m hmlt
                    have dx := (World.cell?_of_block (a := ⟨gx, m, none⟩) (hbx.block gx hgx)).trans cxx
                    have hmem := HPC.out _ (List.getElem_mem hmlt)
                    have PI := hide (fun w' => l12Piece_any P[m] w' (by have := (gpc_bd hmem).2; omega))
                    have hnx : inRow (s.2 ++ P.take (m + 1)) = jo (inRow (s.2 ++ P.take m)) (some (.pc P[m])) := by rw [List.take_succ_eq_append_getElem hmlt, ← List.append_assoc, inRow_snoc]
                    have hbd : nbO (inRow (s.2 ++ P.take m)) ≤ 2000 ∧ szO (inRow (s.2 ++ P.take m)) ≤ 300 := by
                      have q1 := HTOT.out m
                      rw [nbO_row, szO_row]
                      omega
                    have hp8 := (gpc_bd hmem).2
                    have HNX := hide hnx
                    obtain ⟨X, hX⟩ : ∃ X, inRow (s.2 ++ P.take m) = X := ⟨_, rfl⟩
                    rw [hX] at HBO HNX hbd
                    rw [hX]
                    clear cxx hnx hmem hX
                    go_wp2_with fail
                    refine (PI.out _).mono ?_
                    rintro e wp hop
                    obtain ⟨ap, cp, rfl, hbp, hkp⟩ := hop.bi
                    have JN := hide (l12Join_any X (some (.pc P[m])) ax ap cx cp wp (HBO.out.later hkp) hbp (by show nbO X + 1 ≤ 10000; omega) (by show szO X + P[m].size ≤ 1000000; omega))
                    have HKP := hide (hbx.trans (hkp.mono hbx.size))
                    rw [← HNX.out] at JN
                    clear hop hbp hkp PI dx HBO
                    go_wp2_with fail
                    refine JN.out.mono ?_
                    rintro e wq ⟨aq, cq, rfl, hbq, hkq⟩
                    have HBQ := hide hbq
                    have HKQ := hide (HKP.out.trans (hkq.mono HKP.out.size))
                    clear hbq hkq JN
                    go_wp2
                    exact ⟨⟨m + 1, aq, cq, by omega, by go_num, rfl, HBQ, HKQ.out⟩, by simp [intOf]; omega⟩
                  · obtain rfl : m = P.length := by omega
                    rw [List.take_length] at HBO
                    rw [List.take_length]
                    have HBF := hide (HW0.out.trans (hbx.mono HW0.out.size))
                    have HRF := hide (HRT.out.later hbx)
                    clear hbx
                    rw [HN2.out] at HBO
                    rw [HN2.out]
                    go_wp2
                    exact ⟨⟨k + 1, _, _, _, _, by omega, by go_num, by rw [HN1.out], rfl, hide (by rw [HN1.out]; exact HRF.out), HBO, HBF.out⟩, by simp [intOf]; omega⟩
              · skip
                have hc := pk_three hpp k1 k2
                have hput : p.put.data.toList = [] := hc.2
                have hk00 : p.keep = 0 := hc.1
                rw [hk00] at hW0
                rw [decide_eq_true hput] at e1
                have hnl : p.drop.size ≤ szO s.1 := by omega
                have hed : edK p s = ((splO s.1 p.drop.size).2, s.2) := by unfold edK; rw [if_neg k2, if_neg k1]
                have SP := hide (l12Split_opt s.1 p.drop.size a8 c8 W0 HR8.out hnl HEI.out.gd HEI.out.nb (by omega))
                obtain ⟨Y2, hY2⟩ : ∃ Y2, (splO s.1 p.drop.size).2 = Y2 := ⟨_, rfl⟩
                rw [hY2] at SP hed
                have HN1 : Hid ((edF (op.take (k + 1)) o).1 = Y2) := hide (by rw [HST.out, hed])
                have HN2 : Hid ((edF (op.take (k + 1)) o).2 = s.2) := hide (by rw [HST.out, hed])
                rw [hW0] at SP
                have kc0 := KC.out W0 (Below.refl _ _)
                rw [hW0] at kc0
                rw [hk00] at kc0
                obtain ⟨kc1, kc2, kc3⟩ := kc0
                have HK00 := hide hk00
                unfold SqPost at SP
                clear hc hpp hmk1 hmk2 hle hso hnl hed hY2 hput
                go_wp2_with fail
                refine SP.out.mono ?_
                rintro e wz ⟨aa, ca, ab, cb, rfl, hba, hbb, hbz⟩
                rw [← hW0] at hbz
                have kd0 := KC.out wz hbz
                rw [hk00] at kd0
                obtain ⟨kd1, kd2, kd3⟩ := kd0
                have HR9z := hide (HR9.out.later hbz)
                have HBBz := hide hbb
                have HWz := hide (HW.out.trans (hbz.mono HW.out.size))
                clear SP kc1 kc2 kc3 d0 d1 d2 hba hbb hbz
                go_wp2
                exact ⟨⟨k + 1, _, _, _, _, by omega, by go_num, by rw [HN1.out], by rw [HN2.out], hide (by rw [HN1.out]; exact HBBz.out), hide (by rw [HN2.out]; exact HR9z.out), HWz.out⟩, by simp [intOf]; omega⟩
          · obtain rfl : k = op.length := by omega
            rw [List.take_length] at H8 H9
            rw [List.take_length]
            have ei := EI.out op.length (Nat.le_refl _)
            rw [List.take_length] at ei
            obtain ⟨f1, f2, f3⟩ := ed_fin ei hmk
            obtain ⟨Q, hQ⟩ : ∃ Q, inRow (edF op o).2 = Q := ⟨_, rfl⟩
            rw [hQ] at H9 f1 f2 f3
            have HQQ := hide hQ
            rw [hQ]
            have hl2 : (bo Q).length ≤ 700 := by rw [bo_len]; exact f2
            have GX : Hid (∀ w' a' c', RIn w' a' c' (bo Q) → Calls Tryd.prog 14 #[.agg #[.slice a' (bo Q).length c']] w' fun e w'' => e = .returned (.bool (fit Q)) ∧ Below w'.heap.size w' w'') := hide (fun w' a' c' hr => by rw [← rtB_bo f1]; exact goodRopeS hr)
            have GI : Hid (∀ w' B v, BoOwn w' B v (bo Q) → ∃ a cap, v = .slice a (bo Q).length cap ∧ RIn w' a cap (bo Q)) := hide (fun w' B v hb => inn_rin hb f1 f2)
            have HOK : Hid ((fit Q = true → okB Q = bo Q) ∧ (fit Q = false → okB Q = [])) := hide ⟨fun c => by unfold okB; rw [c]; rfl, fun c => by unfold okB; rw [c]; rfl⟩
            have HBL := hide hbel
            have hb4 : Below wr.heap.size wr (wr.alloc (.cells #[] 36)) := (Below.refl _ _).alloc (Nat.le_refl _) _
            have HI4 := hide (H9.out.later hb4)
            have HO4 : Hid ((wr.alloc (.cells #[] 36)).ownsRow wr.heap.size 36 5 (.slice (some ⟨wr.heap.size, 0, none⟩) 0 0) 0 []) := hide (own_new wr 36 #[] 0 5 rfl (by omega))
            have HB4w := hide (hbel.trans (hb4.mono hbel.size))
            have hwr : w.heap.size + 2 ≤ wr.heap.size := by have := hbel.size; omega
            have HWR := hide hwr
            obtain ⟨bb, hbb⟩ : ∃ bb, fit Q = bb := ⟨_, rfl⟩
            rw [hbb] at GX HOK
            have HBQ := hide hbb
            obtain ⟨L2, hL2⟩ : ∃ L2, bo Q = L2 := ⟨_, rfl⟩
            rw [hL2] at GX GI HI4 HOK hl2
            rw [hL2]
            obtain ⟨OKL, hOKL⟩ : ∃ OKL, okB Q = OKL := ⟨_, rfl⟩
            rw [hOKL] at HOK
            have HOL := hide hOKL
            clear ei f1 f2 f3 hQ hbel hb4 hwr hbb hL2 hOKL H8 H9
            go_wp2_with (first
              | (at_builtin; refine append_copy _ rfl _ _ rfl wr.heap.size ⟨wr.heap.size, 0, none⟩ HO4.out a9 c9 L2 (by omega) rfl rfl HI4.out (by simp) ?_; intro v6 w6 own6 hb6; obtain ⟨a6, c6, rfl, hr6⟩ := GI.out w6 _ v6 own6; have HO6 := hide own6; have HR6 := hide hr6; have HB6 : Hid (Below w1.heap.size w1 w6) := hide (HB4w.out.trans (hb6.mono HBL.out.size)); clear own6 hr6 hb6 HI4)
              | fail)
            obtain ⟨w7, hw7⟩ : ∃ w7, w7 = w6.alloc (.cells #[.slice a6 L2.length c6] 26) := ⟨_, rfl⟩
            have hb7 : Below w6.heap.size w6 w7 := by rw [hw7]; exact (Below.refl _ _).alloc (Nat.le_refl _) _
            have hx7 : CellR w7 w6.heap.size (.slice a6 L2.length c6) := by rw [hw7]; exact CellR.new w6 _
            have HX7 := hide hx7
            have HB7 : Hid (Below w1.heap.size w1 w7) := hide (HB6.out.trans (hb7.mono HB6.out.size))
            have HO7 := hide (own_below HO6.out hb7)
            have G7 := hide (GX.out w7 a6 c6 (HR6.out.later hb7))
            rw [← hw7]
            clear hw7 hb7 hx7 HO6 HR6 HB6
            refine G7.out.mono ?_
            rintro e w8 ⟨rfl, hb8⟩
            have HX8 := hide (HX7.out.later hb8)
            have hB8 := HB7.out.trans (hb8.mono HB7.out.size)
            obtain ⟨hd8, -⟩ := Z.out w8 hB8
            have HD8 := hide hd8
            have HBW8 := hide (HB1.out.trans (hB8.mono HB1.out.size))
            have HO8 := hide (own_below HO7.out hb8)
            have q1 := HX8.out.cell
            have q2 := HD8.out.cell
            have q3 := HD8.out.fz
            clear hb8 HX7 HB7 HO7 G7 hB8 hd8
            cases bb with
            | true =>
              have hLL := HOK.out.1 (by first | rfl | trivial)
              have HO9 := hide (own_aside HO8.out (g := w.heap.size + 1) (by have := HWR.out; omega) 0 (.slice a6 L2.length c6))
              go_wp2
              refine bodyPost_ret (results_cell_tmp rfl _ _ (w.heap.size + 1) 26 _ (0, 0) _ (.bool true) rfl rfl (HD8.out.put _) Tryd.underlying26 rfl Tryd.sizeRope) rfl ?_
              rw [HQQ.out, HBQ.out, HOL.out, hLL]
              exact ⟨_, rfl, own_mono HO9.out (by have := HWR.out; omega), HBW8.out.setCell (by show w.heap.size ≤ w.heap.size + 1; omega) _⟩
            | false =>
              have hLL := HOK.out.2 (by first | rfl | trivial)
              go_wp2
              refine bodyPost_ret (results_cell_tmp rfl _ _ (w.heap.size + 1) 26 _ (0, 0) _ (.bool false) rfl rfl (HD8.out.put _) Tryd.underlying26 rfl Tryd.sizeRope) rfl ?_
              rw [HQQ.out, HBQ.out, HOL.out, hLL]
              exact ⟨_, rfl, World.ownsRow_nil _ _ _ _, HBW8.out.setCell (by show w.heap.size ≤ w.heap.size + 1; omega) _⟩
end Go.Proofs.YtkjioadmebkaoaaDoor
