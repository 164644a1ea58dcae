/- The contracts of StylesAt, the model's and the program's. -/
import Derived.Test.YtpgacpfdchckfawMarkW4
import Derived.Test.YtpgacpfdchckfawRowsStr
import Derived.Test.YtpgacpfdchckfawWalks3
import Derived.Test.YtpgacpfdchckfawShelf
namespace Go.Proofs.Ytpgacpfdchckfaw
open Go.RowKit
open Doc1

/-- The styles of the marks in which a place lies. -/
def styIn (at' : Int) (m : Mk) : Bool := decide (m.frm ≤ at' ∧ at' < m.to)
def styL (at' : Int) (l : List Mk) : List ByteArray := (l.filter (styIn at')).map (fun m => m.style)
theorem styL_snoc (at' : Int) (l : List Mk) (m : Mk) : styL at' (l ++ [m]) = styL at' l ++ (if styIn at' m then [m.style] else []) := by
  unfold styL
  rw [List.filter_append, List.map_append]
  congr 1
  by_cases h : styIn at' m <;> simp [h]
theorem styL_len (at' : Int) (l : List Mk) : (styL at' l).length ≤ l.length := by
  unfold styL
  rw [List.length_map]
  exact List.length_filter_le _ _
def styOk (l : List Mk) (size at' : Int) : Bool := goodM l size && decide (0 ≤ at' ∧ at' < size)
/-- What StylesAt answers. -/
def styT (l : List Mk) (size at' : Int) : List ByteArray := if styOk l size at' then styL at' l else []
theorem styT_no {l : List Mk} {size at' : Int} (h : styOk l size at' = false) : styT l size at' = [] := by unfold styT; rw [h]; rfl
theorem styT_yes {l : List Mk} {size at' : Int} (h : styOk l size at' = true) : styT l size at' = styL at' l := by unfold styT; rw [h]; rfl
theorem styT_len (l : List Mk) (size at' : Int) : (styT l size at').length ≤ l.length := by
  unfold styT
  split
  · exact styL_len _ _
  · simp
theorem styT_sz {l : List Mk} {size at' : Int} (h : ∀ i (hi : i < l.length), l[i].style.size ≤ 1048576) : ∀ s ∈ styT l size at', s.size ≤ 1048576 := by
  intro s hs
  unfold styT at hs
  split at hs
  · unfold styL at hs
    obtain ⟨m, hm, rfl⟩ := List.mem_map.1 hs
    obtain ⟨i, hi, rfl⟩ := List.mem_iff_getElem.1 (List.mem_filter.1 hm).1
    exact h i hi
  · simp at hs
theorem Try.infoStr : (Try.prog.info? 9).map (fun i => (i.zero, i.size, i.bytes)) = some (some (.string ⟨#[]⟩), 1, 16) := by kernel_rfl
theorem encSt_snoc (l : List ByteArray) (s : ByteArray) : encSt (l ++ [s]) = encSt l ++ [.string s] := by simp [encSt]

theorem cloneM_any (s : ByteArray) (w : World) (hs : s.size ≤ 1048576) :
    Calls Try.prog 31 #[.string s] w fun e w' => e = .returned (.string s) ∧ Below w.heap.size w w' := by
  have H := hide (Try.stringslite_Clone s w (by omega))
  go_enter Try.func31, Try.ntmps31
  go_wp2_with (go_at_call 36; refine H.out.mono ?_; rintro e w' ⟨rfl, hb⟩)
  go_ret
  exact ⟨rfl, hb⟩

set_option maxRecDepth 100000 in
set_option maxHeartbeats 4000000 in
theorem stylesS {w : World} {g cap : Nat} {l : List Mk} (size at' : Int) (h : MrIn w g cap l) :
    Calls Try.prog 17 #[.slice (some ⟨g, 0, none⟩) l.length cap, .int .i64 size, .int .i64 at'] w fun e w' => ∃ v, e = .returned (.tuple #[v, .bool (styOk l size at')]) ∧ SOwn w' w.heap.size v (styT l size at') ∧ Below w.heap.size w w' := by
  obtain ⟨i0, hi0, hz0, hz1, hz2⟩ := info_parts Try.infoStr
  have hcp := h.cap
  have hln := h.len
  have G := hide (goodMarksS size h)
  have I := hide (fun w => l1In_any at' 0 (size - 1) w)
  have H := hide h
  clear h
  unfold SOwn
  cases hg : goodM l size with
  | false =>
    have e0 : styOk l size at' = false := by unfold styOk; rw [hg]; rfl
    rw [styT_no e0, e0]
    rw [hg] at G
    clear e0 hg
    go_enter Try.func17, Try.ntmps17
    go_wp2_with (go_at_call 7; refine G.out.mono ?_; rintro e w1 ⟨rfl, hb1⟩)
    go_ret2
    exact ⟨_, rfl, World.ownsRow_nil _ _ _ _, hb1⟩
  | true =>
    rw [hg] at G
    by_cases hin : 0 ≤ at' ∧ at' < size
    · have e0 : styOk l size at' = true := by unfold styOk; rw [hg, decide_eq_true hin]; rfl
      rw [styT_yes e0, e0]
      obtain ⟨hz, h40, hok⟩ := goodM_ok hg
      have hsz0 := (goodM_size hg).1
      obtain ⟨in1, in2⟩ := hin
      rw [decide_eq_true (show 0 ≤ at' ∧ at' ≤ size - 1 by omega)] at I
      clear e0 hg hok
      go_enter Try.func17, Try.ntmps17
      go_wp2_with (first | (go_at_call 7; refine G.out.mono ?_; rintro e w1 ⟨rfl, hb1⟩) | (go_at_call 23; refine (I.out _).mono ?_; rintro e w' ⟨rfl, hw⟩; replace hw := hw.symm; subst hw))
      go_loopw [8, 24] (fun v i wr => ∃ k : Nat, k ≤ l.length ∧ i = .int .i64 k ∧ Hid (wr.ownsRow w.heap.size 9 1 v (styL at' (l.take k)).length (encSt (styL at' (l.take k)))) ∧ Below w.heap.size w wr) (fun _ i _ => l.length - (intOf i).toNat)
      case atStart => exact ⟨0, by omega, rfl, hide (World.ownsRow_nil _ _ _ _), hb1⟩
      case round =>
        obtain ⟨k, hk, rfl, HO, hbel⟩ := hrel
        by_cases hlt : k < l.length
        · obtain ⟨c0, c1, c2⟩ := (H.out.later hbel).at'.mrat k hlt
          have ha := hide (hbel.alloc hbel.size (.cells #[.int .i64 l[k].frm, .int .i64 l[k].to, .string l[k].style] 34))
          have hs := hide (styL_snoc at' (l.take k) l[k])
          rw [← List.take_succ_eq_append_getElem hlt] at hs
          have hl := styL_len at' (l.take k)
          have hl2 : (l.take k).length ≤ k := by rw [List.length_take]; omega
          by_cases m1 : l[k].frm ≤ at'
          · by_cases m2 : at' < l[k].to
            · have hs2 : Hid (styL at' (l.take (k + 1)) = styL at' (l.take k) ++ [l[k].style]) := hide (by rw [hs.out, if_pos (by unfold styIn; exact decide_eq_true ⟨m1, m2⟩)])
              clear hs
              generalize styL at' (l.take k) = T at *
              have hel := encSt_len T
              have hown2 := HO.out.alloc (.cells #[.int .i64 l[k].frm, .int .i64 l[k].to, .string l[k].style] 34)
              have hbel2 := ha.out
              have hsz2 := hbel2.size
              have hsz3 := hbel.size
              go_wp2_with (at_builtin; refine wpList_append_own _ rfl _ _ 38 rfl w.heap.size 9 i0 (.string ⟨#[]⟩) 1 16 Try.underlying38 hi0 hz0 hz1 hz2 rfl (by decide) _ _ _ rfl (hown2.alloc _) ⟨wr.heap.size + 1, 0, none⟩ 1 1 [.string l[k].style] rfl rfl ?c1 ?c2 ?c3 ?c4 ?c5 ?_)
              all_goals try (first | exact by have := cell_one_new (wr.alloc (.cells #[.int .i64 l[k].frm, .int .i64 l[k].to, .string l[k].style] 34)) (.string l[k].style) 9; simpa using this | rfl | (intro u hu; simp at hu; subst hu; rfl) | (unfold maxLen; omega) | omega | (simp; omega))
              intro v' w3 hown' hgrow _
              have hb3 := below_append hbel2 hown2 hsz2 hgrow
              have A : Hid (w3.ownsRow w.heap.size 9 1 v' (styL at' (l.take (k + 1))).length (encSt (styL at' (l.take (k + 1))))) := hide (by rw [hs2.out, encSt_snoc, List.length_append]; exact hown')
              clear hown' hgrow hown2
              go_wp2
              refine ⟨⟨k + 1, by omega, by go_num, A, hb3⟩, by simp [intOf]; omega⟩
            · have hs2 : Hid (styL at' (l.take (k + 1)) = styL at' (l.take k)) := hide (by rw [hs.out, if_neg (by unfold styIn; simp; omega), List.append_nil])
              have A := hide (HO.out.alloc (.cells #[.int .i64 l[k].frm, .int .i64 l[k].to, .string l[k].style] 34))
              rw [← hs2.out] at A
              clear hs
              go_wp2
              refine ⟨⟨k + 1, by omega, by go_num, A, ha.out⟩, by simp [intOf]; omega⟩
          · have hs2 : Hid (styL at' (l.take (k + 1)) = styL at' (l.take k)) := hide (by rw [hs.out, if_neg (by unfold styIn; simp; omega), List.append_nil])
            have A := hide (HO.out.alloc (.cells #[.int .i64 l[k].frm, .int .i64 l[k].to, .string l[k].style] 34))
            rw [← hs2.out] at A
            clear hs
            go_wp2
            refine ⟨⟨k + 1, by omega, by go_num, A, ha.out⟩, by simp [intOf]; omega⟩
        · obtain rfl : k = l.length := by omega
          rw [List.take_length] at HO
          go_wp2
          go_ret2
          exact ⟨_, rfl, HO.out, hbel⟩
    · have e0 : styOk l size at' = false := by unfold styOk; rw [decide_eq_false hin, Bool.and_false]
      rw [styT_no e0, e0]
      obtain ⟨hsz0, hz⟩ := goodM_size hg
      rw [decide_eq_false (show ¬ (0 ≤ at' ∧ at' ≤ size - 1) by omega)] at I
      clear e0 hg
      · go_enter Try.func17, Try.ntmps17
        go_wp2_with (first | (go_at_call 7; refine G.out.mono ?_; rintro e w1 ⟨rfl, hb1⟩) | (go_at_call 23; refine (I.out _).mono ?_; rintro e w' ⟨rfl, hw⟩; replace hw := hw.symm; subst hw))
        go_ret2
        exact ⟨_, rfl, World.ownsRow_nil _ _ _ _, hb1⟩

set_option maxRecDepth 100000 in
set_option maxHeartbeats 4000000 in
theorem stylesI {w : World} {g cap : Nat} {l : List Mk} (size at' : Int) (h : MrIn w g cap l) :
    Calls Try.prog 18 #[.slice (some ⟨g, 0, none⟩) l.length cap, .int .i64 size, .int .i64 at'] w fun e w' => ∃ v, e = .returned (.tuple #[v, .bool (styOk l size at')]) ∧ SOwn w' w.heap.size v (styT l size at') ∧ Below w.heap.size w w' := by
  obtain ⟨i0, hi0, hz0, hz1, hz2⟩ := info_parts Try.infoStr
  have hcp := h.cap
  have hln := h.len
  have G := hide (goodMarksI size h)
  have H := hide h
  clear h
  unfold SOwn
  cases hg : goodM l size with
  | false =>
    have e0 : styOk l size at' = false := by unfold styOk; rw [hg]; rfl
    rw [styT_no e0, e0]
    rw [hg] at G
    clear e0 hg
    go_enter Try.func18, Try.ntmps18
    go_wp2_with (go_at_call 9; refine G.out.mono ?_; rintro e w1 ⟨rfl, hb1⟩)
    go_ret2
    exact ⟨_, rfl, World.ownsRow_nil _ _ _ _, hb1⟩
  | true =>
    rw [hg] at G
    by_cases hin : 0 ≤ at' ∧ at' < size
    · have e0 : styOk l size at' = true := by unfold styOk; rw [hg, decide_eq_true hin]; rfl
      rw [styT_yes e0, e0]
      obtain ⟨hz, h40, hok⟩ := goodM_ok hg
      have hsz0 := (goodM_size hg).1
      obtain ⟨in1, in2⟩ := hin
      clear e0 hg hok
      go_enter Try.func18, Try.ntmps18
      go_wp2_with (go_at_call 9; refine G.out.mono ?_; rintro e w1 ⟨rfl, hb1⟩)
      go_loopw [8, 26] (fun v i wr => ∃ k : Nat, k ≤ l.length ∧ i = .int .i64 k ∧ Hid (wr.ownsRow w.heap.size 9 1 v (styL at' (l.take k)).length (encSt (styL at' (l.take k)))) ∧ Below w.heap.size w wr) (fun _ i _ => l.length - (intOf i).toNat)
      case atStart => exact ⟨0, by omega, rfl, hide (World.ownsRow_nil _ _ _ _), hb1⟩
      case round =>
        obtain ⟨k, hk, rfl, HO, hbel⟩ := hrel
        by_cases hlt : k < l.length
        · obtain ⟨c0, c1, c2⟩ := (H.out.later hbel).at'.mrat k hlt
          have ha := hide (hbel.alloc hbel.size (.cells #[.int .i64 l[k].frm, .int .i64 l[k].to, .string l[k].style] 34))
          have hs := hide (styL_snoc at' (l.take k) l[k])
          rw [← List.take_succ_eq_append_getElem hlt] at hs
          have hl := styL_len at' (l.take k)
          have hl2 : (l.take k).length ≤ k := by rw [List.length_take]; omega
          by_cases m1 : l[k].frm ≤ at'
          · by_cases m2 : at' < l[k].to
            · have hs2 : Hid (styL at' (l.take (k + 1)) = styL at' (l.take k) ++ [l[k].style]) := hide (by rw [hs.out, if_pos (by unfold styIn; exact decide_eq_true ⟨m1, m2⟩)])
              clear hs
              generalize styL at' (l.take k) = T at *
              have hel := encSt_len T
              have C := hide (fun w => cloneM_any l[k].style w (H.out.sz k hlt))
              go_wp2_with (first | (go_at_call 31; refine (C.out _).mono ?_; rintro e w2 ⟨rfl, hb2⟩; have hbel2 := ha.out.trans (hb2.mono ha.out.size); have hown2 := own_below (HO.out.alloc _) hb2; have hsz2 := hbel2.size) | (at_builtin; refine wpList_append_own _ rfl _ _ 38 rfl w.heap.size 9 i0 (.string ⟨#[]⟩) 1 16 Try.underlying38 hi0 hz0 hz1 hz2 rfl (by decide) _ _ _ rfl (hown2.alloc _) ⟨w2.heap.size, 0, none⟩ 1 1 [.string l[k].style] rfl rfl ?c1 ?c2 ?c3 ?c4 ?c5 ?_))
              all_goals try (first | exact cell_one_new _ _ _ | rfl | (intro u hu; simp at hu; subst hu; rfl) | (unfold maxLen; omega) | omega | (simp; omega))
              intro v' w3 hown' hgrow _
              have hb3 := below_append hbel2 hown2 hsz2 hgrow
              have A : Hid (w3.ownsRow w.heap.size 9 1 v' (styL at' (l.take (k + 1))).length (encSt (styL at' (l.take (k + 1))))) := hide (by rw [hs2.out, encSt_snoc, List.length_append]; exact hown')
              clear hown' hgrow hown2
              go_wp2
              refine ⟨⟨k + 1, by omega, by go_num, A, hb3⟩, by simp [intOf]; omega⟩
            · have hs2 : Hid (styL at' (l.take (k + 1)) = styL at' (l.take k)) := hide (by rw [hs.out, if_neg (by unfold styIn; simp; omega), List.append_nil])
              have A := hide (HO.out.alloc (.cells #[.int .i64 l[k].frm, .int .i64 l[k].to, .string l[k].style] 34))
              rw [← hs2.out] at A
              clear hs
              go_wp2
              refine ⟨⟨k + 1, by omega, by go_num, A, ha.out⟩, by simp [intOf]; omega⟩
          · have hs2 : Hid (styL at' (l.take (k + 1)) = styL at' (l.take k)) := hide (by rw [hs.out, if_neg (by unfold styIn; simp; omega), List.append_nil])
            have A := hide (HO.out.alloc (.cells #[.int .i64 l[k].frm, .int .i64 l[k].to, .string l[k].style] 34))
            rw [← hs2.out] at A
            clear hs
            go_wp2
            refine ⟨⟨k + 1, by omega, by go_num, A, ha.out⟩, by simp [intOf]; omega⟩
        · obtain rfl : k = l.length := by omega
          rw [List.take_length] at HO
          go_wp2
          go_ret2
          exact ⟨_, rfl, HO.out, hbel⟩
    · have e0 : styOk l size at' = false := by unfold styOk; rw [decide_eq_false hin, Bool.and_false]
      rw [styT_no e0, e0]
      obtain ⟨hsz0, hz⟩ := goodM_size hg
      clear e0 hg
      by_cases h0 : at' < 0
      · go_enter Try.func18, Try.ntmps18
        go_wp2_with (go_at_call 9; refine G.out.mono ?_; rintro e w1 ⟨rfl, hb1⟩)
        go_ret2
        exact ⟨_, rfl, World.ownsRow_nil _ _ _ _, hb1⟩
      · have h1 : size ≤ at' := by omega
        go_enter Try.func18, Try.ntmps18
        go_wp2_with (go_at_call 9; refine G.out.mono ?_; rintro e w1 ⟨rfl, hb1⟩)
        go_ret2
        exact ⟨_, rfl, World.ownsRow_nil _ _ _ _, hb1⟩

end Go.Proofs.Ytpgacpfdchckfaw
