/- The model's l7Row. -/
import Derived.Test.YtknodkdlphngmayDoorWalks5
import Derived.Test.YtknodkdlphngmayDoorWalks6
import Derived.Test.YtknodkdlphngmayDoorRow1
import Derived.Test.YtknodkdlphngmayDoorCells
namespace Go.Proofs.YtknodkdlphngmayDoor
open Go.RowKit
open Doc1

/-- Whether the last symbol is the one of plain bytes. -/
def lastT (out : List UInt8) : Bool := out.getLast? == some 116
theorem lastT_snoc (out : List UInt8) (c : UInt8) : lastT (out ++ [c]) = (c == 116) := by unfold lastT; rw [List.getLast?_concat]; rfl
theorem op_not_t {c : UInt8} (h : opB c = true) : (c == 116) = false := by
  unfold opB opN at h
  have h2 := of_decide_eq_true h
  rw [beq_eq_false_iff_ne]
  intro e
  subst e
  simp at h2
theorem plain_at {s : ByteArray} (hd : doc s.data.toList = true) {k : Nat} (hk : k < s.size) (h0 : dep s.data.toList k = 0) (ho : opB s[k] = false) : plB s[k] = true ∧ dl s[k] = 0 ∧ dep s.data.toList (k + 1) = 0 := by
  have hb := (dep_bd s hd (k + 1) (by omega)).1
  have hs := dep_succ s k hk
  have hne : enB s[k] = false := by
    cases e : enB s[k] with
    | false => rfl
    | true => have : dl s[k] = -1 := by simp [dl, ho, e]
              omega
  have hdl : dl s[k] = 0 := by simp [dl, ho, hne]
  have hok : okC s[k] = true := by
    unfold doc good allOk at hd
    simp only [Bool.and_eq_true, List.all_eq_true] at hd
    refine hd.1.1 _ ?_
    have hk' : k < s.data.toList.length := by simpa using hk
    have e : s.data.toList[k] = s[k] := by simp; rfl
    rw [← e]; exact List.getElem_mem hk'
  refine ⟨?_, hdl, by omega⟩
  unfold okC at hok
  rw [ho, hne] at hok
  simpa using hok
/-- Between two rounds. -/
structure L7 (s : ByteArray) (w : World) (k : Nat) (v : Value) (out : List UInt8) (wr : World) : Prop where
  hk : k ≤ s.size
  d0 : dep s.data.toList k = 0
  own : wr.ownsRow w.heap.size 5 1 v out.length (byt out)
  eq : rowF s.data.toList 0 false = out ++ rowF (s.data.toList.drop k) 0 (lastT out)
  bel : Below w.heap.size w wr
theorem l7_jump {s : ByteArray} {w : World} {k : Nat} {v v' : Value} {out : List UInt8} {wr wr' : World} (h : L7 s w k v out wr) {K : Nat} (hK : IsEnd s k K) (ho : opB (s[k]'(by have := hK.lo; have := hK.hi; omega)) = true)
    (o : wr'.ownsRow w.heap.size 5 1 v' (out.length + 1) (byt out ++ [.int .u8 ((s[k]'(by have := hK.lo; have := hK.hi; omega)).toNat : Int)])) (hb : Below w.heap.size w wr') : L7 s w (K + 1) v' (out ++ [s[k]'(by have := hK.lo; have := hK.hi; omega)]) wr' :=
  ⟨hK.hi, by rw [hK.at_]; exact h.d0, by rw [byt_snoc, List.length_append]; exact o, by rw [h.eq, rowF_jump s hK ho h.d0, lastT_snoc, op_not_t ho, List.append_assoc]; rfl, hb⟩
theorem l7_put {s : ByteArray} {w : World} {k : Nat} {v v' : Value} {out : List UInt8} {wr wr' : World} (h : L7 s w k v out wr) (hd : doc s.data.toList = true) (hk : k < s.size) (ho : opB s[k] = false) (hl : lastT out = false)
    (o : wr'.ownsRow w.heap.size 5 1 v' (out.length + 1) (byt out ++ [.int .u8 116])) (hb : Below w.heap.size w wr') : L7 s w (k + 1) v' (out ++ [116]) wr' := by
  obtain ⟨h1, h2, h3⟩ := plain_at hd hk h.d0 ho
  refine ⟨hk, h3, by rw [byt_snoc, List.length_append]; exact o, ?_, hb⟩
  rw [h.eq, hl, rowF_at s k hk, if_pos rfl, if_neg (by rw [ho]; simp), if_pos (by rw [h1]; rfl), h2, h1, lastT_snoc, List.append_assoc]
  rfl
theorem l7_skip {s : ByteArray} {w : World} {k : Nat} {v : Value} {out : List UInt8} {wr : World} (h : L7 s w k v out wr) (hd : doc s.data.toList = true) (hk : k < s.size) (ho : opB s[k] = false) (hl : lastT out = true) : L7 s w (k + 1) v out wr := by
  obtain ⟨h1, h2, h3⟩ := plain_at hd hk h.d0 ho
  refine ⟨hk, h3, h.own, ?_, h.bel⟩
  rw [h.eq, hl, rowF_at s k hk, if_pos rfl, if_neg (by rw [ho]; simp), if_neg (by rw [h1]; simp), h2, h1]
  rfl

set_option maxRecDepth 100000 in
set_option maxHeartbeats 8000000 in
theorem l7Row_any (s : ByteArray) (w : World) (hd : doc s.data.toList = true) (hs : s.size ≤ 300) :
    Calls Tryd.prog 29 #[.string s] w fun e w' => e = .returned (.string ⟨(rowF s.data.toList 0 false).toArray⟩) ∧ Below w.heap.size w w' := by
  obtain ⟨i0, hi0, hz0, hz1, hz2⟩ := info_parts Tryd.info5
  have Hd := hide hd
  have hrl : (rowF s.data.toList 0 false).length ≤ s.size := Nat.le_trans (rowF_len s.data.toList 0 false) (Nat.le_of_eq (Array.length_toList))
  have R0 : Hid (L7 s w 0 (.slice none 0 0) [] w) := hide ⟨Nat.zero_le _, dep_zero s, World.ownsRow_nil _ _ _ _, by simp [lastT], Below.refl _ _⟩
  clear hd
  go_enter Tryd.func29, Tryd.ntmps29
  go_wp2_with fail
  go_loopw [3, 4] (fun v i wr => ∃ k : Nat, i = .int .i64 k ∧ ∃ v0, v0 = v ∧ ∃ out, Hid (L7 s w k v0 out wr)) (fun _ i _ => s.size - (intOf i).toNat)
  case atStart => exact ⟨0, rfl, _, rfl, [], R0⟩
  case round =>
    obtain ⟨k, rfl, v, hv0, out, HI⟩ := hrel
    subst hv0
    clear R0
    have hk := HI.out.hk
    have hbel := HI.out.bel
    have hsz := hbel.size
    have hoL : out.length ≤ 300 := by have h2 := congrArg List.length HI.out.eq; rw [List.length_append] at h2; omega
    by_cases hlt : k < s.size
    · have O := l1Open_any s[k] wr
      cases ho : opB s[k] with
      | true =>
        rw [ho] at O
        replace O := hide O
        obtain ⟨K, hK⟩ := end_ex s Hd.out k hlt (dl_is_op ho)
        have hlo := hK.lo
        have hhi := hK.hi
        have M := hide (fun wx => l1Match_end s k K wx (by omega) hK hlt ho)
        have NX : Hid (∀ v' wr', wr'.ownsRow w.heap.size 5 1 v' (out.length + 1) (byt out ++ [.int .u8 (s[k].toNat : Int)]) → Below w.heap.size w wr' → L7 s w (K + 1) v' (out ++ [s[k]]) wr') := hide (fun v' wr' o b => l7_jump HI.out hK ho o b)
        have hown := HI.out.own
        clear hK ho
        go_wp2_with (first | (go_at_call 28; refine O.out.mono ?_; rintro e w' ⟨rfl, hw⟩; replace hw := hw.symm; subst hw) | (go_at_call 30; refine (M.out _).mono ?_; rintro e w' ⟨rfl, hw⟩; replace hw := hw.symm; subst hw) | (at_builtin; refine wpList_append_own _ rfl _ _ 86 rfl w.heap.size 5 i0 (.int .u8 0) 1 1 Tryd.underlying86 hi0 hz0 hz1 hz2 rfl (by decide) _ _ _ rfl (hown.alloc _) ⟨wr.heap.size, 0, none⟩ 1 1 [.int .u8 (s[k].toNat : Int)] rfl rfl (cell_one_new _ _ _) (by intro u hu; simp at hu; subst hu; rfl) (by unfold maxLen; omega) (by omega) (by simp; omega) ?_; intro v2 w2 hown2 hgrow2 _; have A := hide (NX.out v2 w2 hown2 (below_append hbel hown hsz hgrow2)); clear hown2 hgrow2 hown))
        exact ⟨⟨K + 1, by go_num, _, rfl, _, A⟩, by simp [intOf]; omega⟩
      | false =>
        rw [ho] at O
        replace O := hide O
        have hown := HI.out.own
        cases hl : lastT out with
        | false =>
          have NX := hide (fun v' wr' o b => l7_put (v' := v') (wr' := wr') HI.out Hd.out hlt ho hl o b)
          rcases Nat.eq_zero_or_pos out.length with h0 | h0
          · obtain rfl := List.length_eq_zero_iff.1 h0
            obtain ⟨av, cv, rfl⟩ : ∃ av cv, v = .slice av 0 cv := by
              rcases hown.2 with ⟨hv, _⟩ | ⟨g, cap, cur, hv, _⟩
              · exact ⟨_, _, hv⟩
              · exact ⟨_, _, hv⟩
            clear ho hl
            go_wp2_with (first | (go_at_call 28; refine O.out.mono ?_; rintro e w' ⟨rfl, hw⟩; replace hw := hw.symm; subst hw) | (at_builtin; refine wpList_append_own _ rfl _ _ 86 rfl w.heap.size 5 i0 (.int .u8 0) 1 1 Tryd.underlying86 hi0 hz0 hz1 hz2 rfl (by decide) _ _ _ rfl (hown.alloc _) ⟨wr.heap.size, 0, none⟩ 1 1 [.int .u8 116] rfl rfl (cell_one_new _ _ _) (by intro u hu; simp at hu; subst hu; rfl) (by unfold maxLen; omega) (by omega) (by simp; omega) ?_; intro v2 w2 hown2 hgrow2 _; have A := hide (NX.out v2 w2 hown2 (below_append hbel hown hsz hgrow2)); clear hown2 hgrow2 hown))
            exact ⟨⟨k + 1, by go_num, _, rfl, _, A⟩, by simp [intOf]; omega⟩
          · obtain ⟨o', x, rfl⟩ : ∃ o' x, out = o' ++ [x] := ⟨out.dropLast, out.getLast (List.length_pos_iff.1 h0), (List.dropLast_concat_getLast _).symm⟩
            have hx : (x == 116) = false := by rw [← lastT_snoc o' x]; exact hl
            obtain ⟨g, cap, rfl, hc1, hc2, hB, hgl, hcl, hbk⟩ := own_cat hown h0
            have cx : wr.cell? ⟨g, o'.length, none⟩ = some (.int .u8 (x.toNat : Int)) := hcl o'.length _ (by rw [byt_snoc, List.getElem?_append_right (by rw [byt_len]; exact Nat.le_refl _), byt_len, Nat.sub_self]; rfl)
            have hx2 : ((x.toNat : Int) == 116) = false := by
              rw [beq_eq_false_iff_ne] at hx ⊢
              intro e; apply hx; apply UInt8.toNat_inj.1; show x.toNat = 116; omega
            have hx3 : ((x.toNat : Int) != 116) = true := by unfold bne; rw [hx2]; rfl
            rw [List.length_append, List.length_singleton] at *
            clear ho hl hcl hbk hx
            go_wp2_with (first | (go_at_call 28; refine O.out.mono ?_; rintro e w' ⟨rfl, hw⟩; replace hw := hw.symm; subst hw) | (at_builtin; refine wpList_append_own _ rfl _ _ 86 rfl w.heap.size 5 i0 (.int .u8 0) 1 1 Tryd.underlying86 hi0 hz0 hz1 hz2 rfl (by decide) _ _ _ rfl (hown.alloc _) ⟨wr.heap.size, 0, none⟩ 1 1 [.int .u8 116] rfl rfl (cell_one_new _ _ _) (by intro u hu; simp at hu; subst hu; rfl) (by unfold maxLen; omega) (by omega) (by simp; omega) ?_; intro v2 w2 hown2 hgrow2 _; have A := hide (NX.out v2 w2 hown2 (below_append hbel hown hsz hgrow2)); clear hown2 hgrow2 hown))
            exact ⟨⟨k + 1, by go_num, _, rfl, _, A⟩, by simp [intOf]; omega⟩
        | true =>
          have A := hide (l7_skip HI.out Hd.out hlt ho hl)
          have h0 : 0 < out.length := by
            rcases Nat.eq_zero_or_pos out.length with h0 | h0
            · obtain rfl := List.length_eq_zero_iff.1 h0
              cases hl
            · exact h0
          obtain ⟨o', x, rfl⟩ : ∃ o' x, out = o' ++ [x] := ⟨out.dropLast, out.getLast (List.length_pos_iff.1 h0), (List.dropLast_concat_getLast _).symm⟩
          have hx : (x == 116) = true := by rw [← lastT_snoc o' x]; exact hl
          obtain ⟨g, cap, rfl, hc1, hc2, hB, hgl, hcl, hbk⟩ := own_cat hown h0
          have cx : wr.cell? ⟨g, o'.length, none⟩ = some (.int .u8 (x.toNat : Int)) := hcl o'.length _ (by rw [byt_snoc, List.getElem?_append_right (by rw [byt_len]; exact Nat.le_refl _), byt_len, Nat.sub_self]; rfl)
          have hx2 : ((x.toNat : Int) == 116) = true := by
            rw [beq_iff_eq] at hx ⊢
            subst hx; rfl
          have hx3 : ((x.toNat : Int) != 116) = false := by unfold bne; rw [hx2]; rfl
          have ol : ((o' ++ [x]).length : Int) = (o'.length : Int) + 1 := by rw [List.length_append]; rfl
          rw [show (o' ++ [x]).length = o'.length + 1 by simp] at A
          clear ho hl hcl hbk hx hown
          go_wp2_with (go_at_call 28; refine O.out.mono ?_; rintro e w' ⟨rfl, hw⟩; replace hw := hw.symm; subst hw)
          exact ⟨⟨k + 1, by go_num, _, rfl, _, A⟩, by simp [intOf]; omega⟩
    · obtain rfl : k = s.size := by omega
      have hown := HI.out.own
      have hq := HI.out.eq
      rw [drop_end s s.size (Nat.le_refl _), show rowF [] 0 (lastT out) = [] from rfl, List.append_nil] at hq
      have HQ := hide hq
      have hcv := conv_own hown
      clear hown hq
      go_wp2
      go_ret
      exact ⟨by rw [HQ.out] <;> rfl, hbel⟩
end Go.Proofs.YtknodkdlphngmayDoor
