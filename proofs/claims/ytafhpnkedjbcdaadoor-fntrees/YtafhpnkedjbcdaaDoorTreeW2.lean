/- The contracts of spec.l2Parse and spec.TreeOf: the nodes of a document, part by part. -/
import Derived.Test.YtafhpnkedjbcdaaDoorTreeW1
import Derived.Test.YtafhpnkedjbcdaaDoorPlain3a
import Derived.Test.YtafhpnkedjbcdaaDoorWalks5
namespace Go.Proofs.YtafhpnkedjbcdaaDoor
open Go.RowKit
open Doc1

/-- What is known in the rounds of l2Parse: at a place that is not within a part. -/
structure QAt (p : PS) (s : ByteArray) (B : Nat) (w : World) (v : Value) (k : Nat) (wr : World) : Prop where
  hk : k ≤ s.size
  dep : dep s.data.toList k = 0
  st : (PP p s k).st = p.st
  own : NOwn wr B v (PP p s k).out
  below : Below B w wr
  off : (PP p s k).r = [] ∨ ∀ h : k < s.size, plB s[k] = false
theorem QAt.up {p : PS} {s : ByteArray} {B : Nat} {w wr : World} {v : Value} {k : Nat} (h : QAt p s B w v k wr) : (PP p s k).up = p.up := by unfold PS.up; rw [h.st]
theorem doc_size (s : ByteArray) (h : doc s.data.toList = true) : s.size ≤ 300 := by
  unfold doc good at h
  simp only [Bool.and_eq_true, decide_eq_true_eq] at h
  have := h.1.2
  simpa using this
/-- Behind a part. -/
theorem part_end {p : PS} {s : ByteArray} {k K : Nat} (hd : doc s.data.toList = true) (hK : IsEnd s k K) (hp : opB (s[k]'(by have := hK.lo; have := hK.hi; omega)) = true) :
    PP p s (K + 1) = ⟨(feed (pst (PP p s k) (s[k]'(by have := hK.lo; have := hK.hi; omega))) (s.extract (k + 1) K).data.toList).out, (PP p s k).st, []⟩ := by
  have hlo := hK.lo
  have hhi := hK.hi
  have he := en_of_dl (end_begin hK (dl_is_op hp)).1
  have hdi := doc_inner3 hd hK hp
  rw [PP_succ p s K hhi, pst_en _ he, PP_sub p s k K hlo (by omega)]
  have e : (s.data.toList.drop (k + 1)).take (K - (k + 1)) = (s.extract (k + 1) K).data.toList := by rw [Lib.extract_data]
  rw [e, feed_st0 _ _ (rn_of_doc hdi), pst_op _ hp]
  rfl
theorem out_opP {p : PS} {s : ByteArray} {k : Nat} (h : k < s.size) (ho : opB s[k] = true) : (pst (PP p s k) s[k]).out = (PP p s k).out ++ [⟨s.extract k (k + 1), ⟨#[]⟩, (PP p s k).up⟩] ∧ (pst (PP p s k) s[k]).r = [] ∧ (pst (PP p s k) s[k]).up = ((PP p s k).out.length : Int) := by
  rw [pst_op _ ho, out_nil _ rfl, extract_one s k h]; exact ⟨rfl, rfl, rfl⟩
theorem out_plP {p : PS} {s : ByteArray} {k : Nat} (h : k < s.size) (ho : plB s[k] = true) (hr : (PP p s k).r = []) :
    (PP p s (k + pe (s.data.toList.drop k))).out = (PP p s k).out ++ [⟨⟨#[]⟩, s.extract k (k + pe (s.data.toList.drop k)), (PP p s k).up⟩] ∧ (PP p s (k + pe (s.data.toList.drop k))).st = (PP p s k).st := by
  have hne : (s.data.toList.drop k).takeWhile plB ≠ [] := by
    rw [drop_cons s k h, List.takeWhile_cons, if_pos ho]; simp
  rw [extract_run, PP_run p s k hr]
  refine ⟨?_, rfl⟩
  simp only [PS.out, if_neg hne, hr, if_pos]
  rfl
theorem dep_run (s : ByteArray) (k : Nat) : ∀ j, j ≤ pe (s.data.toList.drop k) → k + j ≤ s.size → dep s.data.toList (k + j) = dep s.data.toList k
  | 0, _, _ => rfl
  | j + 1, h, hk => by
    have ih := dep_run s k j (by omega) (by omega)
    rw [show k + (j + 1) = k + j + 1 by omega, dep_succ s (k + j) (by omega), ih]
    have hp : plB (s[k + j]'(by omega)) = true := by
      have h1 : (s.data.toList.drop k)[j]? = some (s[k + j]'(by omega)) := by
        rw [List.getElem?_drop, List.getElem?_eq_getElem (by simp; omega)]; rfl
      have h2 : ((s.data.toList.drop k).takeWhile plB)[j]? = some (s[k + j]'(by omega)) := by
        rw [takeWhile_take, List.getElem?_take, if_pos (by unfold pe at h; omega)]; exact h1
      have h3 := List.mem_of_getElem? h2
      have h4 := List.all_takeWhile (p := plB) (l := s.data.toList.drop k)
      exact List.all_eq_true.1 h4 _ h3
    have : dl (s[k + j]'(by omega)) = 0 := by simp [dl, op_of_pl hp, en_of_pl hp]
    omega
theorem NOwn.any {w : World} {B : Nat} {v : Value} {l : List Nd} (h : NOwn w B v l) : ∃ a cap, v = .slice a l.length cap ∧ l.length ≤ cap ∧ cap ≤ maxLen := by
  have h' : w.ownsRow B 53 3 v l.length (encL l) := h
  rcases h'.2 with ⟨rfl, h0⟩ | ⟨g, cap, cur, hv, hb, hh, hle, hm, hs, ht⟩
  · exact ⟨none, 0, by rw [h0], by omega, by unfold maxLen; omega⟩
  · exact ⟨_, cap, hv, hle, hm⟩

set_option maxRecDepth 100000 in
set_option maxHeartbeats 2000000 in
theorem l2Parse_any : ∀ (n : Nat) (s : ByteArray), s.size < n → doc s.data.toList = true → ∀ (p : PS) (B : Nat) (v : Value) (w : World), p.r = [] → NOwn w B v p.out → B ≤ w.heap.size → p.out.length + s.size ≤ 2000000 →
    Calls Tryd.prog 115 #[v, .string s, .int .i64 p.up] w fun e w' => ∃ v', e = .returned v' ∧ NOwn w' B v' (feed p s.data.toList).out ∧ Below B w w' := by
  intro n
  induction n with
  | zero => intro s hn; omega
  | succ n ih =>
    intro s hn hd p B v w hr hown hB hlen
    obtain ⟨i0, hi, hz0, hz1, hz2⟩ := info_parts Tryd.infoNode
    have hs3 := doc_size s hd
    have Hd := hide hd
    have IH := hide ih
    have Hr := hide hr
    clear hd ih hr
    go_enter Tryd.func115, Tryd.ntmps115
    go_wp2
    go_loopw [0, 7] (fun v i wr => ∃ k : Nat, i = .int .i64 k ∧ QAt p s B w v k wr) (fun _ i _ => s.size - (intOf i).toNat)
    case atStart =>
      exact ⟨0, rfl, Nat.zero_le _, dep_zero s, rfl, hown, Below.refl _ _, Or.inl Hr.out⟩
    case round =>
      obtain ⟨k, rfl, hat⟩ := hrel
      have hk := hat.hk
      by_cases hlt : k < s.size
      · have hown2 := hat.own
        have hln := PP_len p s k
        have hbw := hat.below
        have hsz : B ≤ wr.heap.size := Nat.le_trans hB hat.below.size
        have hup := hide hat.up
        have HK := hide hat
        clear hat hown
        obtain ⟨a0, cap0, rfl, hcp1, hcp2⟩ := hown2.any
        have O := l1Open_any s[k] wr
        by_cases hop : opB s[k] = true
        · rw [hop] at O
          replace O := hide O
          obtain ⟨K, hK⟩ := end_ex s Hd.out k hlt (dl_is_op hop)
          have hlo := hK.lo
          have hhi := hK.hi
          have M := hide (l1Match_end s k K wr (by omega) hK hlt hop)
          have F := hide (out_opP (p := p) hlt hop)
          have G : Hid (PP p s (K + 1) = ⟨(feed (pst (PP p s k) s[k]) (s.extract (k + 1) K).data.toList).out, (PP p s k).st, []⟩) := part_end (p := p) Hd.out hK hop
          have DI := hide (doc_inner3 Hd.out hK hop)
          have DK : Hid (dep s.data.toList (K + 1) = 0) := hide (by rw [hK.at_]; exact HK.out.dep)
          clear hK hop
          go_wp2_with (first | (go_at_call 66; refine O.out.mono ?_; rintro e w' ⟨rfl, hw⟩; replace hw := hw.symm; subst hw) | (go_at_call 64; refine M.out.mono ?_; rintro e w' ⟨rfl, hw⟩; replace hw := hw.symm; subst hw) | (at_builtin; refine wpList_append_own _ rfl _ _ 39 rfl B 53 i0 (.agg #[.string ⟨#[]⟩, .string ⟨#[]⟩, .int .i64 0]) 3 40 Tryd.underlying39 hi hz0 hz1 hz2 rfl (by decide) _ _ _ rfl (hown2.alloc _) ⟨wr.heap.size, 0, none⟩ 1 1 [.string (s.extract k (k + 1)), .string ⟨#[]⟩, .int .i64 p.up] rfl rfl ?c1 ?c2 ?c3 ?c4 ?c5 ?_))
          case c1 => exact cells_three _ _ _ _ _
          case c2 => intro u hu; simp at hu; rcases hu with rfl | rfl | rfl <;> rfl
          case c3 => unfold maxLen; omega
          case c4 => omega
          case c5 => simp; omega
          intro v' w3 hown' hgrow _
          have A : NOwn w3 B v' (pst (PP p s k) s[k]).out := by rw [← hup.out] at hown'; exact row_app hown' F.out.1
          have hb3 := below_append hbw hown2 hsz hgrow
          clear hown' hgrow hown2 O M
          have I := IH.out (s.extract (k + 1) K) (by rw [ByteArray.size_extract]; omega) DI.out (pst (PP p s k) s[k]) B v' w3 F.out.2.1 A (Nat.le_trans hB hb3.size) (by rw [F.out.1, ByteArray.size_extract]; simp; omega)
          rw [F.out.2.2] at I
          replace I := hide I
          obtain ⟨a1, cap1, rfl, hcq1, hcq2⟩ := A.any
          clear IH A
          go_wp2_with (go_at_call 115; refine I.out.mono ?_; rintro e w4 ⟨v4, rfl, hown4, hb4⟩)
          refine ⟨⟨K + 1, by go_num, ⟨by omega, DK.out, by rw [G.out]; exact HK.out.st, by rw [G.out, out_nil _ rfl]; exact hown4, hb3.trans hb4, Or.inl (by rw [G.out])⟩⟩, by simp [intOf]; omega⟩
        · have hnen : enB s[k] = false := by
            cases he : enB s[k] with
            | false => rfl
            | true =>
              have h1 := dep_succ s k hlt
              have h2 := (dep_bd s Hd.out (k + 1) (by omega)).1
              have h3 := HK.out.dep
              rw [show dl s[k] = -1 by simp [dl, op_of_en he, he]] at h1
              omega
          have hpl : plB s[k] = true := by have := ok_at s Hd.out k hlt; unfold okC at this; simpa [hop, hnen] using this
          rw [Bool.eq_false_iff.2 hop] at O
          replace O := hide O
          have hr : (PP p s k).r = [] := off_no (HK.out.off.imp id (fun h => h hlt)) hpl
          have F := hide (out_plP hlt hpl hr)
          have hpe := pe_le s k hk
          have hpe1 : 1 ≤ pe (s.data.toList.drop k) := by rw [pe_pl s k hlt hpl]; omega
          have hnx := hide (fun h => pe_next s k h)
          have DK := hide (dep_run s k _ (Nat.le_refl _) hpe)
          obtain ⟨E, hE⟩ : ∃ E, E = k + pe (s.data.toList.drop k) := ⟨_, rfl⟩
          have HE := hide hE
          rw [← hE] at F hnx hpe DK
          have hE1 : k < E := by omega
          clear hop hnen hpl hr hpe1 hE IH
          go_wp2_with (go_at_call 66; refine O.out.mono ?_; rintro e w' ⟨rfl, hw⟩; replace hw := hw.symm; subst hw)
          clear O
          go_loop [10] (fun i => ∃ m : Nat, m ≤ s.size ∧ i = .int .i64 m ∧ Hid (E = m + pe (s.data.toList.drop m))) (fun i => s.size - (intOf i).toNat)
          case atStart => exact ⟨k, hk, rfl, HE⟩
          case round =>
            obtain ⟨m, hm, rfl, hrm⟩ := hrel
            by_cases hmE : m = E
            · subst hmE
              have hpe0 : Hid (∀ h : m < s.size, plB s[m] = false) := hide (fun h => hnx.out h)
              by_cases hms : m < s.size
              · have L := l1Plain_any s[m] wr
                rw [hpe0.out hms] at L
                replace L := hide L
                clear hpe0
                go_wp2_with (first | (go_at_call 63; refine L.out.mono ?_; rintro e w' ⟨rfl, hw⟩; replace hw := hw.symm; subst hw) | (at_builtin; refine wpList_append_own _ rfl _ _ 39 rfl B 53 i0 (.agg #[.string ⟨#[]⟩, .string ⟨#[]⟩, .int .i64 0]) 3 40 Tryd.underlying39 hi hz0 hz1 hz2 rfl (by decide) _ _ _ rfl (hown2.alloc _) ⟨wr.heap.size, 0, none⟩ 1 1 [.string ⟨#[]⟩, .string (s.extract k m), .int .i64 p.up] rfl rfl ?c1 ?c2 ?c3 ?c4 ?c5 ?_))
                case c1 => exact cells_three _ _ _ _ _
                case c2 => intro u hu; simp at hu; rcases hu with rfl | rfl | rfl <;> rfl
                case c3 => unfold maxLen; omega
                case c4 => omega
                case c5 => simp; omega
                intro v' w3 hown' hgrow _
                have A : NOwn w3 B v' (PP p s m).out := by rw [← hup.out] at hown'; exact row_app hown' F.out.1
                have hb3 := below_append hbw hown2 hsz hgrow
                have Q : Hid (QAt p s B w v' m w3) := hide ⟨hpe, by rw [DK.out]; exact HK.out.dep, by rw [F.out.2]; exact HK.out.st, A, hb3, Or.inr hnx.out⟩
                obtain ⟨a1, cap1, rfl, hcq1, hcq2⟩ := A.any
                clear hown' hgrow hown2 A hb3
                go_wp2
                refine ⟨⟨m, rfl, Q.out⟩, by simp [intOf]; omega⟩
              · clear hpe0
                go_wp2_with (at_builtin; refine wpList_append_own _ rfl _ _ 39 rfl B 53 i0 (.agg #[.string ⟨#[]⟩, .string ⟨#[]⟩, .int .i64 0]) 3 40 Tryd.underlying39 hi hz0 hz1 hz2 rfl (by decide) _ _ _ rfl (hown2.alloc _) ⟨wr.heap.size, 0, none⟩ 1 1 [.string ⟨#[]⟩, .string (s.extract k m), .int .i64 p.up] rfl rfl ?c1 ?c2 ?c3 ?c4 ?c5 ?_)
                case c2 => exact ⟨rfl, rfl, rfl⟩
                case c3 => unfold maxLen; omega
                case c4 => omega
                case c5 => omega
                intro v' w3 hown' hgrow _
                have A : NOwn w3 B v' (PP p s m).out := by rw [← hup.out] at hown'; exact row_app hown' F.out.1
                have hb3 := below_append hbw hown2 hsz hgrow
                have Q : Hid (QAt p s B w v' m w3) := hide ⟨hpe, by rw [DK.out]; exact HK.out.dep, by rw [F.out.2]; exact HK.out.st, A, hb3, Or.inr hnx.out⟩
                obtain ⟨a1, cap1, rfl, hcq1, hcq2⟩ := A.any
                clear hown' hgrow hown2 A hb3
                go_wp2
                refine ⟨⟨m, rfl, Q.out⟩, by simp [intOf]; omega⟩
            · have hms : m < s.size := by
                apply Classical.byContradiction
                intro h
                have := pe_end s m (by omega)
                have := hrm.out
                omega
              have hpm : plB s[m] = true := by
                cases h : plB s[m] with
                | true => rfl
                | false => have := pe_no s m hms h; have := hrm.out; omega
              have hst := hide (pe_pl s m hms hpm)
              have L := l1Plain_any s[m] wr
              rw [hpm] at L
              replace L := hide L
              clear hpm
              go_wp2_with (go_at_call 63; refine L.out.mono ?_; rintro e w' ⟨rfl, hw⟩; replace hw := hw.symm; subst hw)
              refine ⟨⟨m + 1, by omega, by go_num, hide (by have := hrm.out; have := hst.out; omega)⟩, by simp [intOf]; omega⟩
      · obtain rfl : k = s.size := by omega
        have := hat.own
        rw [PP_last] at this
        have hb := hat.below
        obtain ⟨a0, cap0, rfl, hcp1, hcp2⟩ := this.any
        clear hat
        go_wp2
        go_ret
        exact ⟨_, rfl, this, hb⟩

set_option maxHeartbeats 400000 in
theorem l2Tree_any (s : ByteArray) (w : World) (hd : doc s.data.toList = true) :
    Calls Tryd.prog 79 #[.string s] w fun e w' => ∃ v, e = .returned v ∧ NOwn w' w.heap.size v (tree s.data.toList) ∧ Below w.heap.size w w' := by
  have hs3 := doc_size s hd
  have I := l2Parse_any (s.size + 1) s (by omega) hd pin w.heap.size (.slice (some ⟨w.heap.size, 0, none⟩) 1 1) (w.alloc (.cells #[.string ⟨#[]⟩, .string ⟨#[]⟩, .int .i64 (-1)] 53)) rfl (new_row (Nat.le_refl _) ⟨ba [], ba [], -1⟩ rfl) (by simp) (by show 1 + s.size ≤ _; omega)
  replace I := hide I
  clear hd
  go_enter Tryd.func79, Tryd.ntmps79
  go_wp2_with (go_at_call 115; refine I.out.mono ?_; rintro e w' ⟨v, rfl, hown, hb⟩)
  go_ret
  exact ⟨_, rfl, hown, ((Below.refl _ _).alloc (Nat.le_refl _) _).trans hb⟩

set_option maxHeartbeats 400000 in
theorem treeS_yes (s : ByteArray) (w : World) (hs : s.size ≤ 1048576) (hd : doc s.data.toList = true) :
    Calls Tryd.prog 28 #[.string s] w fun e w' => ∃ v, e = .returned (.tuple #[v, .bool true]) ∧ NOwn w' w.heap.size v (tree s.data.toList) ∧ Below w.heap.size w w' := by
  have G := goodDocS_any s w hs
  rw [hd] at G
  replace G := hide G
  have T := hide (l2Tree_any s w hd)
  clear hd
  go_enter Tryd.func28, Tryd.ntmps28
  go_wp2_with (first | (go_at_call 15; refine G.out.mono ?_; rintro e w' ⟨rfl, hw⟩; replace hw := hw.symm; subst hw) | (go_at_call 79; refine T.out.mono ?_; rintro e w' ⟨v, rfl, hown, hb⟩))
  go_ret2
  exact ⟨_, rfl, hown, hb⟩

set_option maxHeartbeats 400000 in
theorem treeS_no (s : ByteArray) (w : World) (hs : s.size ≤ 1048576) (hd : doc s.data.toList = false) :
    Calls Tryd.prog 28 #[.string s] w fun e w' => e = .returned (.tuple #[.slice none 0 0, .bool false]) ∧ w' = w := by
  have G := goodDocS_any s w hs
  rw [hd] at G
  replace G := hide G
  clear hd
  go_enter Tryd.func28, Tryd.ntmps28
  go_wp2_with (go_at_call 15; refine G.out.mono ?_; rintro e w' ⟨rfl, hw⟩; replace hw := hw.symm; subst hw)
  go_ret2
  exact ⟨rfl, rfl⟩
end Go.Proofs.YtafhpnkedjbcdaaDoor
