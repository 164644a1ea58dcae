/- The contract of impl.TreeOf: the nodes of a document. -/
import Derived.Test.YtafhpnkedjbcdaaDoorNodes1
import Derived.Test.YtafhpnkedjbcdaaDoorTreeM
import Derived.Test.YtafhpnkedjbcdaaDoorShelf
import Derived.Lib.Strings
import Derived.Maps.AppendAt
namespace Go.Proofs.YtafhpnkedjbcdaaDoor
open Go.RowKit
open Doc1

theorem ret_i {x y : Int} (h : x = y) : Ending.returned (.int .i64 x) = .returned (.int .i64 y) := by rw [h]
theorem val_i {x y : Int} (h : x = y) : Value.int .i64 x = .int .i64 y := by rw [h]
theorem pl_kd {c : UInt8} (h : (kd c == 1) = true) : plB c = true := by rw [kd_pl] at h; exact h
theorem npl_kd {c : UInt8} (h : (kd c == 1) = false) : plB c = false := by rw [kd_pl] at h; exact h

set_option maxHeartbeats 400000 in
theorem plainEnd_any (s : ByteArray) (k : Nat) (w : World) (hs : s.size ≤ 4194304) (hk : k ≤ s.size) (hT : Tab w) :
    Calls Tryd.prog 78 #[.string s, .int .i64 k] w fun e w' => e = .returned (.int .i64 (k + pe (s.data.toList.drop k) : Nat)) ∧ w' = w := by
  go_enter Tryd.func78, Tryd.ntmps78
  go_wp2
  go_loop [1] (fun i => ∃ m : Nat, m ≤ s.size ∧ i = .int .i64 m ∧ Hid (k + pe (s.data.toList.drop k) = m + pe (s.data.toList.drop m))) (fun i => s.size - (intOf i).toNat)
  case atStart => exact ⟨k, hk, rfl, rfl⟩
  case round =>
    obtain ⟨m, hm, rfl, hr⟩ := hrel
    by_cases hlt : m < s.size
    · go_wp2_with (go_at_call 59; refine (kindOf_any _ _ hT).mono ?_; rintro e w' ⟨rfl, hw⟩; replace hw := hw.symm; subst hw)
      · refine ⟨⟨m + 1, by omega, by go_num, hide (by have := pe_pl s m hlt (pl_kd ‹_›); have := hr.out; omega)⟩, by simp [intOf]; omega⟩
      · go_ret
        exact ⟨ret_i (by have := pe_no s m hlt (npl_kd ‹_›); have := hr.out; omega), rfl⟩
    · go_wp2
      go_ret
      exact ⟨ret_i (by have := pe_end s m (by omega); have := hr.out; omega), rfl⟩

theorem Tryd.infoNode : (Tryd.prog.info? 53).map (fun i => (i.zero, i.size, i.bytes)) = some (some (.agg #[.string ⟨#[]⟩, .string ⟨#[]⟩, .int .i64 0]), 3, 40) := by kernel_rfl
theorem encL_len (l : List Nd) : (encL l).length = l.length * 3 := by
  induction l with
  | nil => rfl
  | cons n l ih => rw [encL, List.flatMap_cons, List.length_append]; change _ + (encL l).length = _; rw [ih]; simp [ndC]; omega
theorem encL_app (a b : List Nd) : encL (a ++ b) = encL a ++ encL b := by simp [encL]
theorem encL_at (l : List Nd) : ∀ i (h : i < l.length), (encL l)[i * 3]? = some (.string l[i].name) ∧ (encL l)[i * 3 + 1]? = some (.string l[i].text) ∧ (encL l)[i * 3 + 2]? = some (.int .i64 l[i].up) := by
  induction l with
  | nil => intro i h; simp at h
  | cons n l ih =>
    intro i h
    have e : encL (n :: l) = ndC n ++ encL l := by simp [encL]
    cases i with
    | zero => rw [e]; simp [ndC]
    | succ i =>
      have := ih i (by simpa using h)
      have k0 : (i + 1) * 3 = (ndC n).length + i * 3 := by simp [ndC]; omega
      rw [e, k0]
      rw [List.getElem?_append_right (by omega), List.getElem?_append_right (by omega), List.getElem?_append_right (by omega)]
      simp only [List.getElem_cons_succ, Nat.add_sub_cancel_left, Nat.add_assoc]
      exact this
theorem add_zero (g j : Nat) : (⟨g, 0, none⟩ : Addr).add j = ⟨g, j, none⟩ := by unfold Addr.add; split <;> simp_all
/-- A row of nodes of the call's own. -/
def NOwn (w : World) (B : Nat) (v : Value) (l : List Nd) : Prop := w.ownsRow B 53 3 v l.length (encL l)
theorem NOwn.shape {w : World} {B : Nat} {v : Value} {l : List Nd} (h : NOwn w B v l) (hl : l ≠ []) :
    ∃ g cap, v = .slice (some ⟨g, 0, none⟩) l.length cap ∧ l.length ≤ cap ∧ cap ≤ maxLen ∧ B ≤ g ∧ g < w.heap.size ∧ NAt w g l ∧ Blk w g (3 * l.length) := by
  have h' : w.ownsRow B 53 3 v l.length (encL l) := h
  rcases h'.2 with ⟨_, h0⟩ | ⟨g, cap, cur, hv, hb, hh, hle, hm, hs, ht⟩
  · exact absurd (List.length_eq_zero_iff.1 h0) hl
  · subst hv
    have C : ∀ j u, (encL l)[j]? = some u → w.cell? ⟨g, j, none⟩ = some u := fun j u hu => by have := h'.cells (g := g) rfl j u hu; rwa [add_zero] at this
    refine ⟨g, cap, rfl, hle, hm, hb, (Array.getElem?_eq_some_iff.1 hh).1, ⟨fun i hi => C _ _ (encL_at l i hi).1, fun i hi => C _ _ (encL_at l i hi).2.1, fun i hi => C _ _ (encL_at l i hi).2.2⟩, ?_, ?_⟩
    · intro j hj
      have : j < (encL l).length := by rw [encL_len]; omega
      exact ⟨_, C j _ (List.getElem?_eq_getElem this)⟩
    · intro j
      unfold World.frozen?
      simp [hh]

set_option maxHeartbeats 400000 in
theorem cloneT_any (s : ByteArray) (w : World) (hs : s.size ≤ 4194304) :
    Calls Tryd.prog 65 #[.string s] w fun e w' => e = .returned (.string s) ∧ Below w.heap.size w w' := by
  have H := hide (Tryd.stringslite_Clone s w (by omega))
  go_enter Tryd.func65, Tryd.ntmps65
  go_wp2_with (go_at_call 109; refine H.out.mono ?_; rintro e w' ⟨rfl, hb⟩)
  go_ret
  exact ⟨rfl, hb⟩

theorem extract_one (s : ByteArray) (k : Nat) (h : k < s.size) : s.extract k (k + 1) = ba [s[k]] := by
  apply ba_eq
  rw [ba_list, Lib.extract_data, drop_cons s k h]
  simp [show k + 1 - k = 1 by omega]
theorem extract_run (s : ByteArray) (k : Nat) : s.extract k (k + pe (s.data.toList.drop k)) = ba ((s.data.toList.drop k).takeWhile plB) := by
  apply ba_eq
  rw [ba_list, Lib.extract_data, Nat.add_sub_cancel_left, pe, ← takeWhile_take]
theorem NOwn.below {w w1 : World} {B : Nat} {v : Value} {l : List Nd} (h : NOwn w B v l) (hb : Below w.heap.size w w1) : NOwn w1 B v l :=
  World.ownsRow.kept (row := none) h ⟨hb.os, hb.tape, hb.output, hb.size, fun k hk _ => hb.block k hk⟩ (by cases v.ownBlock <;> simp)
theorem out_ne (s : ByteArray) (k : Nat) : (P s k).out ≠ [] := by
  have h : pin.l <+: (P s k).out := feed_pre_out _ _
  intro e
  rw [e] at h
  have := h.length_le
  simp [pin] at this
theorem up_op {s : ByteArray} {k : Nat} (h : k < s.size) (ho : opB s[k] = true) : (P s (k + 1)).up = ((P s k).out.length : Int) := by rw [P_succ s k h, pst_op _ ho]; rfl
theorem out_op {s : ByteArray} {k : Nat} (h : k < s.size) (ho : opB s[k] = true) : (P s (k + 1)).out = (P s k).out ++ [⟨s.extract k (k + 1), ⟨#[]⟩, (P s k).up⟩] ∧ (P s (k + 1)).r = [] := by
  rw [P_succ s k h, pst_op _ ho, out_nil _ rfl, extract_one s k h]; exact ⟨rfl, rfl⟩
theorem out_en {s : ByteArray} {k : Nat} (h : k < s.size) (ho : enB s[k] = true) : (P s (k + 1)).out = (P s k).out ∧ (P s (k + 1)).r = [] := by
  rw [P_succ s k h, pst_en _ ho, out_nil _ rfl]; exact ⟨rfl, rfl⟩
theorem up_en {s : ByteArray} {k : Nat} (h : k < s.size) (ho : enB s[k] = true) (hd : doc s.data.toList = true) : ∃ o : Nat, (P s k).up = (o : Int) ∧ ∃ hl : o < (P s k).out.length, (P s k).out[o].up = (P s (k + 1)).up := by
  obtain ⟨hc, hn⟩ := P_ok s hd k (by omega)
  have h2 := (dep_bd s hd (k + 1) (by omega)).1
  rw [dep_succ s k h, show dl s[k] = -1 by simp [dl, op_of_en ho, ho]] at h2
  rw [P_succ s k h, pst_en _ ho]
  match hst : (P s k).st, hc, hn with
  | [o], hc, hn => simp at hn; omega
  | o :: o' :: r, hc, hn =>
    have hc' := hc.mono (l_out (P s k))
    obtain ⟨⟨n, hn, hu⟩, _, _⟩ := hc'
    obtain ⟨hl, e⟩ := List.getElem?_eq_some_iff.1 hn
    refine ⟨o, by simp [PS.up, hst], hl, ?_⟩
    rw [e, hu]; simp [PS.up]
  | [], hc, hn => exact hc.elim
theorem out_pl {s : ByteArray} {k : Nat} (h : k < s.size) (ho : plB s[k] = true) (hr : (P s k).r = []) :
    (P s (k + pe (s.data.toList.drop k))).out = (P s k).out ++ [⟨⟨#[]⟩, s.extract k (k + pe (s.data.toList.drop k)), (P s k).up⟩] ∧ (P s (k + pe (s.data.toList.drop k))).up = (P s k).up := by
  have hne : (s.data.toList.drop k).takeWhile plB ≠ [] := by
    rw [drop_cons s k h, List.takeWhile_cons, if_pos ho]; simp
  rw [extract_run, P_run s k hr]
  refine ⟨?_, rfl⟩
  simp only [PS.out, if_neg hne, hr, if_pos]
  rfl
theorem off_no {c : UInt8} {p : Prop} (h : p ∨ plB c = false) (hp : plB c = true) : p := by rcases h with h | h; exact h; rw [hp] at h; cases h
theorem row_app {w : World} {B : Nat} {v : Value} {a b : List Nd} {n : Nd} (h : w.ownsRow B 53 3 v (a.length + 1) (encL a ++ ndC n)) (e : b = a ++ [n]) : NOwn w B v b := by
  subst e
  unfold NOwn
  rw [encL_app, List.length_append]
  exact h

/-- What is known in the rounds of TreeOf. -/
structure TAt (s : ByteArray) (w : World) (v : Value) (k : Nat) (wr : World) : Prop where
  hk : k ≤ s.size
  own : NOwn wr w.heap.size v (P s k).out
  below : Below w.heap.size w wr
  off : (P s k).r = [] ∨ ∀ h : k < s.size, plB s[k] = false
theorem new_row {w : World} {B : Nat} {l : List Nd} (hB : B ≤ w.heap.size) (n : Nd) (hl : l = [n]) : NOwn (w.alloc (.cells #[.string n.name, .string n.text, .int .i64 n.up] 53)) B (.slice (some ⟨w.heap.size, 0, none⟩) 1 1) l := by
  subst hl
  exact ⟨rfl, Or.inr ⟨w.heap.size, 1, #[.string n.name, .string n.text, .int .i64 n.up], rfl, hB, heap_alloc_new w _, Nat.le_refl _, by unfold maxLen; omega, rfl, rfl⟩⟩
theorem ok_at (s : ByteArray) (h : doc s.data.toList = true) (n : Nat) (hn : n < s.size) : okC s[n] = true := by
  unfold doc good at h
  simp only [Bool.and_eq_true] at h
  have h1 : allOk s.data.toList = true := h.1.1
  unfold allOk at h1
  have hm : s[n] ∈ s.data.toList := by
    have e := drop_cons s n hn
    have : s[n] ∈ s.data.toList.drop n := by rw [e]; simp
    exact List.mem_of_mem_drop this
  exact List.all_eq_true.1 h1 _ hm

theorem cells_three (w : World) (a b c : Value) (t : TypeId) : ∀ j u, [a, b, c][j]? = some u → (w.alloc (.cells #[a, b, c] t)).cell? ((⟨w.heap.size, 0, none⟩ : Addr).add j) = some u := by
  intro j u hu
  rw [add_zero, World.cell?_alloc_at _ _ _ _ rfl]
  match j, hu with
  | 0, hu => simpa using hu
  | 1, hu => simpa using hu
  | 2, hu => simpa using hu

set_option maxHeartbeats 2000000 in
theorem treeI_yes (s : ByteArray) (w : World) (hs : s.size ≤ 1048576) (hT : Tab w) (hd : doc s.data.toList = true) :
    Calls Tryd.prog 27 #[.string s] w fun e w' => ∃ v, e = .returned (.tuple #[v, .bool true]) ∧ NOwn w' w.heap.size v (tree s.data.toList) ∧ Below w.heap.size w w' := by
  obtain ⟨i0, hi, hz0, hz1, hz2⟩ := info_parts Tryd.infoNode
  have G := goodDocI_any s w hs hT
  rw [hd] at G
  replace G := hide G
  have Hd := hide hd
  clear hd
  go_enter Tryd.func27, Tryd.ntmps27
  go_wp2_with (go_at_call 14; refine G.out.mono ?_; rintro e w1 ⟨rfl, hb1⟩)
  clear G
  go_loopw [4, 5, 6] (fun v u i wr => ∃ k : Nat, i = .int .i64 k ∧ u = .int .i64 (P s k).up ∧ TAt s w v k wr) (fun _ _ i _ => s.size - (intOf i).toNat)
  case atStart =>
    exact ⟨0, rfl, rfl, Nat.zero_le _, new_row hb1.size ⟨ba [], ba [], -1⟩ rfl, hb1.alloc hb1.size _, Or.inl rfl⟩
  case round =>
    obtain ⟨k, rfl, rfl, hat⟩ := hrel
    have hk := hat.hk
    by_cases hlt : k < s.size
    · have hT2 := hT.below hat.below
      have hown := hat.own
      have hln := P_len s k
      have hsz := hat.below.size
      have HK : Hid (TAt s w _ k _) := hat
      have hok := hide (ok_at s Hd.out k hlt)
      clear hat
      obtain ⟨g, cap, rfl, hcap, hcm, hgB, hgl, hna, hblk⟩ := hown.shape (out_ne s k)
      clear hblk
      by_cases hop : opB s[k] = true
      · have hk2 := kd_op s[k]
        rw [hop] at hk2
        have F := hide (out_op hlt hop)
        have U := hide (up_op hlt hop)
        clear hna hop hok
        go_wp2_with (go_at_call 59; refine (kindOf_any _ _ hT2).mono ?_; rintro e w' ⟨rfl, hw⟩; replace hw := hw.symm; subst hw)
        refine (cloneT_any _ _ (by rw [ByteArray.size_extract]; omega)).mono ?_
        rintro e w2 ⟨rfl, hb2⟩
        have hown2 := hown.below hb2
        have hbw := HK.out.below.trans (hb2.mono hsz)
        have hw2 := hbw.size
        clear hb2 hown HK
        go_wp2_with (at_builtin; refine wpList_append_own _ rfl _ _ 39 rfl w.heap.size 53 i0 (.agg #[.string ⟨#[]⟩, .string ⟨#[]⟩, .int .i64 0]) 3 40 Tryd.underlying39 hi hz0 hz1 hz2 rfl (by decide) _ _ _ rfl (hown2.alloc _) ⟨w2.heap.size, 0, none⟩ 1 1 [.string (s.extract k (k + 1)), .string ⟨#[]⟩, .int .i64 (P s k).up] rfl rfl ?c1 ?c2 ?c3 ?c4 ?c5 ?_)
        case c1 => exact cells_three _ _ _ _ _
        case c2 => intro u hu; simp at hu; rcases hu with rfl | rfl | rfl <;> rfl
        case c3 => unfold maxLen; omega
        case c4 => omega
        case c5 => simp; omega
        intro v' w3 hown' hgrow _
        have A : TAt s w v' (k + 1) w3 := ⟨by omega, row_app hown' F.out.1, below_append hbw hown2 hw2 hgrow, Or.inl F.out.2⟩
        obtain ⟨g', cap', rfl, hc1, hc2, -⟩ := A.own.shape (out_ne s (k + 1))
        have hl2 : (P s (k + 1)).out.length = (P s k).out.length + 1 := by rw [F.out.1]; simp
        have HA := hide A
        clear hown' hgrow A hown2 hbw F
        go_wp2
        refine ⟨⟨k + 1, by go_num, val_i (by rw [U.out] <;> omega), HA.out⟩, by simp [intOf]; omega⟩
      · have hk2 := kd_op s[k]
        rw [Bool.eq_false_iff.2 hop] at hk2
        by_cases hen : enB s[k] = true
        · have hk3 := kd_en s[k]
          rw [hen] at hk3
          have F := hide (out_en hlt hen)
          obtain ⟨o, ho1, ho2, ho3⟩ := up_en hlt hen Hd.out
          have c2 := hna.c2 o ho2
          rw [ho3] at c2
          have ho : Hid ((P s k).up = (o : Int)) := ho1
          rw [ho1]
          have A : Hid (TAt s w (.slice (some ⟨g, 0, none⟩) (P s k).out.length cap) (k + 1) wr) := hide ⟨by omega, by rw [F.out.1]; exact hown, HK.out.below, Or.inl F.out.2⟩
          clear hna ho1 ho3 hown HK hok hop hen F
          go_wp2_with (go_at_call 59; refine (kindOf_any _ _ hT2).mono ?_; rintro e w' ⟨rfl, hw⟩; replace hw := hw.symm; subst hw)
          refine ⟨⟨k + 1, by go_num, rfl, A.out⟩, by simp [intOf]; omega⟩
        · have hk3 := kd_en s[k]
          rw [Bool.eq_false_iff.2 hen] at hk3
          have hpl : plB s[k] = true := by have := hok.out; unfold okC at this; simpa [hop, hen] using this
          have hk1 := kd_pl s[k]
          rw [hpl] at hk1
          have hr : (P s k).r = [] := off_no (HK.out.off.imp id (fun h => h hlt)) hpl
          have F := hide (out_pl hlt hpl hr)
          have hpe := pe_le s k hk
          have hpe1 : 1 ≤ pe (s.data.toList.drop k) := by rw [pe_pl s k hlt hpl]; omega
          have hnx := hide (fun h => pe_next s k h)
          have PE := hide (plainEnd_any s k wr (by omega) hk hT2)
          obtain ⟨E, hE⟩ : ∃ E, E = k + pe (s.data.toList.drop k) := ⟨_, rfl⟩
          rw [← hE] at F PE hnx hpe
          have hE1 : k < E := by omega
          clear hna hop hen hok hpl hr hpe1 hE
          go_wp2_with (first | (go_at_call 59; refine (kindOf_any _ _ hT2).mono ?_; rintro e w' ⟨rfl, hw⟩; replace hw := hw.symm; subst hw) | (go_at_call 78; refine PE.out.mono ?_; rintro e w' ⟨rfl, hw⟩; replace hw := hw.symm; subst hw))
          refine (cloneT_any _ _ (by rw [ByteArray.size_extract]; omega)).mono ?_
          rintro e w2 ⟨rfl, hb2⟩
          have hown2 := hown.below hb2
          have hbw := HK.out.below.trans (hb2.mono hsz)
          have hw2 := hbw.size
          clear hb2 hown HK PE
          go_wp2_with (at_builtin; refine wpList_append_own _ rfl _ _ 39 rfl w.heap.size 53 i0 (.agg #[.string ⟨#[]⟩, .string ⟨#[]⟩, .int .i64 0]) 3 40 Tryd.underlying39 hi hz0 hz1 hz2 rfl (by decide) _ _ _ rfl (hown2.alloc _) ⟨w2.heap.size, 0, none⟩ 1 1 [.string ⟨#[]⟩, .string (s.extract k E), .int .i64 (P s k).up] rfl rfl ?c1 ?c2 ?c3 ?c4 ?c5 ?_)
          case c1 => exact cells_three _ _ _ _ _
          case c2 => intro u hu; simp at hu; rcases hu with rfl | rfl | rfl <;> rfl
          case c3 => unfold maxLen; omega
          case c4 => omega
          case c5 => simp; omega
          intro v' w3 hown' hgrow _
          have A : Hid (TAt s w v' E w3) := hide ⟨hpe, row_app hown' F.out.1, below_append hbw hown2 hw2 hgrow, Or.inr (fun h => hnx.out h)⟩
          clear hown' hgrow hown2 hbw
          go_wp2
          refine ⟨⟨E, rfl, val_i F.out.2.symm, A.out⟩, by simp [intOf]; omega⟩
    · obtain rfl : k = s.size := by omega
      have := hat.own
      rw [P_last] at this
      have hb := hat.below
      clear hat
      go_wp2
      go_ret2
      exact ⟨_, rfl, this, hb⟩

set_option maxHeartbeats 400000 in
theorem treeI_no (s : ByteArray) (w : World) (hs : s.size ≤ 1048576) (hT : Tab w) (hd : doc s.data.toList = false) :
    Calls Tryd.prog 27 #[.string s] w fun e w' => e = .returned (.tuple #[.slice none 0 0, .bool false]) ∧ Below w.heap.size w w' := by
  have G := goodDocI_any s w hs hT
  rw [hd] at G
  replace G := hide G
  clear hd
  go_enter Tryd.func27, Tryd.ntmps27
  go_wp2_with (go_at_call 14; refine G.out.mono ?_; rintro e w1 ⟨rfl, hb1⟩)
  go_ret2
  exact ⟨rfl, hb1⟩
end Go.Proofs.YtafhpnkedjbcdaaDoor
