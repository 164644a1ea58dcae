/- The words of a text: the model's. -/
import Derived.Test.YtgacajnljplmiabDoorWds1
set_option linter.unusedVariables false
namespace Go.Proofs.YtgacajnljplmiabDoor
open Go.RowKit
open Doc1

theorem ext_one (p : ByteArray) (i : Nat) (h : i < p.size) : (p.extract i (i + 1)).data.toList = [p[i]] := by
  have h1 : (p.extract i (i + 1)).data.toList = (p.data.toList.drop i).take 1 := by simp
  rw [h1, drop_cons p i h]
  rfl
/-- Where the model stands: what is told, what is gathered. -/
def WdI (p : ByteArray) (W out : List ByteArray) (cur : ByteArray) (i : Nat) : Prop := (i ≤ p.size ∧ out ++ (Lib.fieldsGo cur.data.toList (p.data.toList.drop i)).map baL = W) ∨ (i = p.size + 1 ∧ out = W)
theorem WdI.len {p : ByteArray} {W out : List ByteArray} {cur : ByteArray} {i : Nat} (h : WdI p W out cur i) : out.length ≤ W.length := by
  rcases h with ⟨-, h⟩ | ⟨-, h⟩
  · rw [← h, List.length_append]; omega
  · rw [h]; exact Nat.le_refl _

set_option maxRecDepth 100000 in
set_option maxHeartbeats 2000000 in
theorem wordsS_any (s : ByteArray) (w : World) (hs : s.size ≤ 1048576) :
    Calls Tryd.prog 17 #[.string s] w (LbPost (wdT s).1 (wdT s).2 w) := by
  obtain ⟨i0, hi0, hz0, hz1, hz2⟩ := info_parts Tryd.infoStr
  have P := hide (plainOfS_any s w hs)
  have hp := wdP_ok s
  rw [show (if good s.data.toList = true then (⟨(flt true s.data.toList).toArray⟩ : ByteArray) else ⟨#[]⟩) = wdP s from rfl] at P
  obtain ⟨R, hR⟩ : ∃ R, R = wdT s := ⟨_, rfl⟩
  rw [← hR]
  unfold wdT at hR
  obtain ⟨p, hpp⟩ : ∃ p, p = wdP s := ⟨_, rfl⟩
  rw [← hpp] at P hp hR
  have hbd := wds_bd p.data.toList (by rw [← szB]; exact hp.2)
  obtain ⟨W, hW⟩ : ∃ W, W = wdsL p.data.toList := ⟨_, rfl⟩
  rw [← hW] at hR hbd
  have hl3 := hbd.1
  have hps := hp.2
  have HPL := hide hp.1
  have HW : Hid (W = (Lib.fieldsGo [] p.data.toList).map baL) := hide (by rw [hW]; rfl)
  have HSz := hide hbd.2
  obtain ⟨bg, hbg⟩ : ∃ bg, bg = good s.data.toList := ⟨_, rfl⟩
  rw [← hbg] at P hR
  have HR := hide hR
  have LW : Hid (∀ (x : ByteArray) w', x.size ≤ 300 → Calls Tryd.prog 65 #[.string x] w' fun e w'' => e = .returned (.bool (wrd x)) ∧ w'' = w') := hide (fun x w' hx => l13Word_any x w' (by omega))
  clear hW hpp hp hbd hbg hR
  go_enter Tryd.func17, Tryd.ntmps17
  go_wp2_with fail
  refine P.out.mono ?_
  rintro e w1 ⟨rfl, hb1⟩
  have HB1 := hide hb1
  have hsz1 := hb1.size
  clear hb1 P
  cases bg with
  | false =>
    obtain rfl : R = ([], false) := by rw [HR.out, if_neg (fun e => by cases e.1)]
    clear HR
    go_wp2
    go_ret2
    exact ⟨_, rfl, World.ownsRow_nil _ _ _ _, HB1.out⟩
  | true =>
    have HRy : Hid (saidW W = true → R = (W, true)) := hide (fun c => by rw [HR.out, if_pos ⟨rfl, c⟩])
    have HRn : Hid (saidW W = false → R = ([], false)) := hide (fun c => by rw [HR.out, if_neg (fun e => by rw [e.2] at c; cases c)])
    clear HR
    go_wp2
    go_loopw [6, 7, 8] (fun v vc i wr => ∃ (k : Nat) (cur : ByteArray), k ≤ p.size + 1 ∧ cur.size ≤ k ∧ i = .int .i64 (k : Int) ∧ vc = .string cur ∧ ∃ v0 out, v0 = v ∧ Hid (WdI p W out cur k) ∧ Hid (SOwn wr w1.heap.size v0 out ∧ Below w1.heap.size w1 wr)) (fun _ _ i _ => p.size + 1 - (intOf i).toNat)
    case atStart => exact ⟨0, ⟨#[]⟩, by omega, by show 0 ≤ 0; omega, rfl, rfl, _, [], rfl, hide (.inl ⟨Nat.zero_le _, by rw [HW.out]; rfl⟩), hide ⟨World.ownsRow_nil _ _ _ _, Below.refl _ _⟩⟩
    case round =>
      obtain ⟨k, cur, hk, hcz, rfl, rfl, v, out, hv0, HI, HO⟩ := hrel
      subst hv0
      have hB := HO.out.2.size
      have hol : out.length ≤ 300 := by have := HI.out.len; omega
      by_cases hlt : k < p.size
      · have hI : out ++ (Lib.fieldsGo cur.data.toList (p.data.toList.drop k)).map baL = W := by
          rcases HI.out with ⟨-, h⟩ | ⟨h, -⟩
          · exact h
          · omega
        have hdk := drop_cons p k hlt
        have hpl := HPL.out p[k] (by have : p[k] ∈ p.data.toList.drop k := by rw [hdk]; simp
                                     exact List.mem_of_mem_drop this)
        have hsp := sp_pl p[k] hpl
        have hd1 : decide ((k : Int) ≤ (p.size : Int)) = true := by rw [decide_eq_true_iff]; omega
        by_cases hb : p[k].toNat = 32
        · have hsp2 : Lib.isSp p[k] = true := by rw [hsp]; simp [hb]
          have hne : ((p[k].toNat : Int) != 32) = false := by simp; omega
          by_cases hc : cur.size = 0
          · have hce : cur.data.toList = [] := List.length_eq_zero_iff.1 (by rw [← szB]; exact hc)
            have he := emp_yes hc
            have HI2 : Hid (WdI p W out ⟨#[]⟩ (k + 1)) := hide (.inl ⟨by omega, by rw [← hI, hdk, hce, Lib.fieldsGo_sp _ _ hsp2] <;> rfl⟩)
            clear hI hdk hpl hsp hb hsp2 hce hc
            go_wp2
            exact ⟨⟨k + 1, _, by omega, by show 0 ≤ k + 1; omega, by go_num, rfl, v, out, rfl, HI2, HO⟩, by simp [intOf]; omega⟩
          · have he := emp_no (s := cur) (by omega)
            have hcn : cur.data.toList ≠ [] := fun e => hc (by rw [szB, e]; rfl)
            have hba : baL cur.data.toList = cur := ba_of cur
            have HI2 : Hid (WdI p W (out ++ [cur]) ⟨#[]⟩ (k + 1)) := hide (.inl ⟨by omega, by rw [← hI, hdk, Lib.fieldsGo_end _ _ _ hsp2 hcn, List.map_cons, hba, List.append_assoc] <;> rfl⟩)
            clear hI hdk hpl hsp hb hsp2 hcn hba
            go_wp2_with (at_builtin; refine wpList_append_loc _ rfl _ _ 23 rfl w1.heap.size 9 i0 (.string ⟨#[]⟩) 1 16 Tryd.underlying23 hi0 hz0 hz1 hz2 rfl (by decide) _ _ _ rfl (World.ownsRow.alloc HO.out.1 _) ⟨wr.heap.size, 0, none⟩ 1 1 [.string cur] rfl rfl (World.news_of_block (cs := #[.string cur]) (t := 9) (fr := (0, 0)) (heap_alloc_new wr _)) (by simp [Value.oneCell']) (by unfold maxLen; omega) (by omega) (by simp; omega) ?_; intro v3 w3 own3 grow3 loc3; have HR3 : Hid (SOwn w3 w1.heap.size v3 (out ++ [cur]) ∧ Below w1.heap.size w1 w3) := hide ⟨SOwn.app1 own3, grown_belowB (HO.out.2.alloc hB _) (by simp; omega) (World.ownsRow.alloc HO.out.1 _) grow3⟩; clear own3 grow3 loc3)
            exact ⟨⟨k + 1, _, by omega, by show 0 ≤ k + 1; omega, by go_num, rfl, v3, out ++ [cur], rfl, HI2, HR3⟩, by simp [intOf]; omega⟩
        · have hsp2 : Lib.isSp p[k] = false := by rw [hsp]; simp [hb]
          have hne : ((p[k].toNat : Int) != 32) = true := by simp; omega
          have hx1 : (cur ++ p.extract k (k + 1)).data.toList = cur.data.toList ++ [p[k]] := by rw [apdB, ext_one p k hlt]
          have hx2 : (cur ++ p.extract k (k + 1)).size ≤ k + 1 := by rw [szB, hx1, List.length_append, ← szB]; simp only [List.length_singleton]; omega
          have hx3 : (p.extract k (k + 1)).size ≤ 1 := by rw [szB, ext_one p k hlt]; simp
          have HI2 : Hid (WdI p W out (cur ++ p.extract k (k + 1)) (k + 1)) := hide (.inl ⟨by omega, by rw [← hI, hdk, Lib.fieldsGo_more _ _ _ hsp2, hx1]⟩)
          have HX2 := hide hx2
          clear hI hdk hpl hsp hb hsp2 hx1 hx2
          go_wp2
          exact ⟨⟨k + 1, _, by omega, HX2.out, by go_num, rfl, v, out, rfl, HI2, HO⟩, by simp [intOf]; omega⟩
      · by_cases hlast : k = p.size
        · subst hlast
          have hI : out ++ (Lib.fieldsGo cur.data.toList []).map baL = W := by
            rcases HI.out with ⟨-, h⟩ | ⟨h, -⟩
            · rw [drop_end p _ (Nat.le_refl _)] at h; exact h
            · omega
          by_cases hc : cur.size = 0
          · have hce : cur.data.toList = [] := List.length_eq_zero_iff.1 (by rw [← szB]; exact hc)
            have he := emp_yes hc
            have HI2 : Hid (WdI p W out ⟨#[]⟩ (p.size + 1)) := hide (.inr ⟨rfl, by rw [← hI, hce]; simp [Lib.fieldsGo]⟩)
            clear hI hce hc
            go_wp2
            exact ⟨⟨p.size + 1, _, by omega, by show 0 ≤ p.size + 1; omega, by go_num, rfl, v, out, rfl, HI2, HO⟩, by simp [intOf] <;> omega⟩
          · have he := emp_no (s := cur) (by omega)
            have hcn : cur.data.toList ≠ [] := fun e => hc (by rw [szB, e]; rfl)
            have hba : baL cur.data.toList = cur := ba_of cur
            have HI2 : Hid (WdI p W (out ++ [cur]) ⟨#[]⟩ (p.size + 1)) := hide (.inr ⟨rfl, by rw [← hI]; unfold Lib.fieldsGo; rw [if_neg (by simpa using hcn)]; simp [hba]⟩)
            clear hI hcn hba
            go_wp2_with (at_builtin; refine wpList_append_loc _ rfl _ _ 23 rfl w1.heap.size 9 i0 (.string ⟨#[]⟩) 1 16 Tryd.underlying23 hi0 hz0 hz1 hz2 rfl (by decide) _ _ _ rfl (World.ownsRow.alloc HO.out.1 _) ⟨wr.heap.size, 0, none⟩ 1 1 [.string cur] rfl rfl (World.news_of_block (cs := #[.string cur]) (t := 9) (fr := (0, 0)) (heap_alloc_new wr _)) (by simp [Value.oneCell']) (by unfold maxLen; omega) (by omega) (by simp; omega) ?_; intro v3 w3 own3 grow3 loc3; have HR3 : Hid (SOwn w3 w1.heap.size v3 (out ++ [cur]) ∧ Below w1.heap.size w1 w3) := hide ⟨SOwn.app1 own3, grown_belowB (HO.out.2.alloc hB _) (by simp; omega) (World.ownsRow.alloc HO.out.1 _) grow3⟩; clear own3 grow3 loc3)
            exact ⟨⟨p.size + 1, _, by omega, by show 0 ≤ p.size + 1; omega, by go_num, rfl, v3, out ++ [cur], rfl, HI2, HR3⟩, by simp [intOf] <;> omega⟩
        · have hoW : out = W := by
            rcases HI.out with ⟨h, -⟩ | ⟨-, h⟩
            · omega
            · exact h
          subst hoW
          have hd1 : decide ((k : Int) ≤ (p.size : Int)) = false := by rw [decide_eq_false_iff_not]; omega
          have hd1' : decide (k ≤ p.size) = false := by rw [decide_eq_false_iff_not]; omega
          obtain ⟨a3, c3, rfl, hs3⟩ := HO.out.1.st
          have HS3 := hide hs3.ce
          have hc31 := hs3.c1
          have hc32 := hs3.c2
          unfold maxLen at hc32
          obtain ⟨w3, rfl⟩ : ∃ w3, w3 = wr := ⟨_, rfl⟩
          have HEnd : Hid (Below w.heap.size w w3 ∧ SOwn w3 w.heap.size (.slice a3 out.length c3) out) := hide ⟨HB1.out.trans (HO.out.2.mono HB1.out.size), own_mono HO.out.1 HB1.out.size⟩
          clear hs3 HO HI HW
          go_wp2
          go_loopw [49] (fun i wq => ∃ q : Nat, q ≤ out.length ∧ i = .int .i64 q ∧ Hid (allW out = allW (out.drop q)) ∧ wq = w3) (fun i _ => out.length - (intOf i).toNat)
          case atStart => exact ⟨0, Nat.zero_le _, rfl, hide (by rw [List.drop_zero]), rfl⟩
          case round =>
            obtain ⟨q, hq, rfl, hz, hw0⟩ := hrel
            replace hw0 := hw0.symm
            subst hw0
            by_cases hlq : q < out.length
            · obtain ⟨gq, oq, rfl, hgq, hcq⟩ := HS3.out q hlq
              have hst := hide (allW_step hlq)
              have L1 := hide (LW.out out[q] w3 (HSz.out _ (List.getElem_mem hlq)))
              obtain ⟨s0, hs0⟩ : ∃ s0, out[q] = s0 := ⟨_, rfl⟩
              rw [hs0] at hcq hst L1
              clear hs0
              by_cases hp : wrd s0 = true
              · have HF : Hid (allW out = allW (out.drop (q + 1))) := hide (by rw [hz.out, hst.out, hp]; rfl)
                rw [hp] at L1
                clear hp
                go_wp2_with (go_at_call 65; refine L1.out.mono ?_; rintro e w9 ⟨rfl, hw'⟩; replace hw' := hw'.symm; subst hw')
                refine ⟨⟨q + 1, by omega, by go_num, HF, by first | rfl | trivial⟩, by simp [intOf]; omega⟩
              · have hp2 : wrd s0 = false := by simpa using hp
                have HF : Hid (saidW out = false) := hide (by unfold saidW; rw [show out.all wrd = allW out from rfl, hz.out, hst.out, hp2]; rfl)
                rw [hp2] at L1
                clear hp hp2
                go_wp2_with (go_at_call 65; refine L1.out.mono ?_; rintro e w9 ⟨rfl, hw'⟩; replace hw' := hw'.symm; subst hw')
                go_ret2
                rw [HRn.out HF.out]
                exact ⟨_, rfl, World.ownsRow_nil _ _ _ _, HEnd.out.1⟩
            · have hall : allW out = true := by rw [hz.out, allW_end (by omega)]
              by_cases h6 : out.length ≤ 60
              · have HF : Hid (saidW out = true) := hide (by unfold saidW; rw [show out.all wrd = allW out from rfl, hall, decide_eq_true h6]; rfl)
                have hd6 : decide ((60 : Int) < (out.length : Int)) = false := by rw [decide_eq_false_iff_not]; omega
                clear hall
                go_wp2
                go_ret2
                rw [HRy.out HF.out]
                exact ⟨_, rfl, HEnd.out.2, HEnd.out.1⟩
              · have HF : Hid (saidW out = false) := hide (by unfold saidW; rw [decide_eq_false h6]; simp)
                have hd6 : decide ((60 : Int) < (out.length : Int)) = true := by rw [decide_eq_true_iff]; omega
                clear hall
                go_wp2
                go_ret2
                rw [HRn.out HF.out]
                exact ⟨_, rfl, World.ownsRow_nil _ _ _ _, HEnd.out.1⟩
end Go.Proofs.YtgacajnljplmiabDoor
