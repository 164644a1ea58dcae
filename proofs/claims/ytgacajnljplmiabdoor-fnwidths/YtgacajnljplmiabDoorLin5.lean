/- Lines by cuts, the greedy cuts, the greedy lines: the program's. -/
import Derived.Test.YtgacajnljplmiabDoorLin4
set_option linter.unusedVariables false
namespace Go.Proofs.YtgacajnljplmiabDoor
open Go.RowKit
open Doc1

/-- Words taken out of a row. -/
theorem cut_mid (g o n cap x y : Nat) (h1 : x ≤ y) (h2 : y ≤ cap) (h3 : x < cap) (w : World) : (Instr.slice 23 (.slice (some ⟨g, o, none⟩) n cap) (some (.int .i64 (x : Int))) (some (.int .i64 (y : Int))) none).run Tryd.prog w = .ok (.slice (some ⟨g, o + x, none⟩) (y - x) (cap - x)) w := by
  have : ¬ cap = x := by omega
  simp [go_sem, Tryd.underlying23, h1, h2, this]
theorem cut_from (g o n cap x : Nat) (h1 : x ≤ n) (h3 : x < cap) (w : World) : (Instr.slice 23 (.slice (some ⟨g, o, none⟩) n cap) (some (.int .i64 (x : Int))) none none).run Tryd.prog w = .ok (.slice (some ⟨g, o + x, none⟩) (n - x) (cap - x)) w := by
  have : ¬ cap = x := by omega
  simp [go_sem, Tryd.underlying23, h1, this]
theorem cut_to (g o n cap y : Nat) (h : y ≤ cap) (w : World) : (Instr.slice 23 (.slice (some ⟨g, o, none⟩) n cap) none (some (.int .i64 (y : Int))) none).run Tryd.prog w = .ok (.slice (some ⟨g, o, none⟩) y cap) w := by
  simp [go_sem, Tryd.underlying23, h]

/-- A row of numbers that came in. -/
structure NuIn (w : World) (a : Option Addr) (cap : Nat) (l : List Int) : Prop where
  c1 : l.length ≤ cap
  c2 : cap ≤ maxLen
  ce : ∀ i (h : i < l.length), ∃ g o, a = some ⟨g, o, none⟩ ∧ g < w.heap.size ∧ w.cell? ⟨g, o + i, none⟩ = some (.int .i64 l[i])
theorem NuIn.later {w w1 : World} {a : Option Addr} {cap : Nat} {l : List Int} (h : NuIn w a cap l) (hb : Below w.heap.size w w1) : NuIn w1 a cap l :=
  ⟨h.c1, h.c2, fun i hi => by
    obtain ⟨g, o, e, hg, hc⟩ := h.ce i hi
    exact ⟨g, o, e, Nat.lt_of_lt_of_le hg hb.size, (World.cell?_of_block (hb.block g hg)).trans hc⟩⟩
def nts (c : List Nat) : List Int := c.map fun (n : Nat) => (n : Int)
theorem nts_len (c : List Nat) : (nts c).length = c.length := by simp [nts]
theorem nts_at {c : List Nat} {k : Nat} (h : k < c.length) : (nts c)[k]'(by rw [nts_len]; exact h) = (c[k] : Int) := by simp [nts]
theorem lst_take {c : List Nat} {k : Nat} (h : k < c.length) (a : Nat) : (c.take (k + 1)).getLastD a = c[k] := by
  rw [List.take_succ_eq_append_getElem h, List.getLastD_eq_getLast?, List.getLast?_concat]
  rfl
theorem lnE_snoc (l : List ByteArray) (c : List Nat) (e : Nat) : lnE l 0 (c ++ [e]) = lnE l 0 c ++ [jn (Doc1.sl l (c.getLastD 0) e)] := by rw [lnE_app]; rfl
def LsPost (L : List ByteArray) (w : World) (e : Ending) (w' : World) : Prop := ∃ v, e = .returned v ∧ SOwn w' w.heap.size v L ∧ Below w.heap.size w w'
theorem SOwn.app1 {w : World} {B : Nat} {v : Value} {l : List ByteArray} {s : ByteArray} (h : w.ownsRow B 9 1 v (l.length + 1) (encSt l ++ [.string s])) : SOwn w B v (l ++ [s]) := by
  unfold SOwn
  rw [List.length_append, encSt_app]
  exact h

set_option maxRecDepth 100000 in
set_option maxHeartbeats 4000000 in
theorem linesAt_any (l : List ByteArray) (c : List Nat) (n : Int) (a ac : Option Addr) (cap capc : Nat) (w : World) (hd : Sd l n) (h : StIn w a cap l) (hn : NuIn w ac capc (nts c)) (hr : rs l.length 0 c) :
    Calls Tryd.prog 58 #[.slice ac c.length capc, .slice a l.length cap] w (LsPost (lnE l 0 (cutE l c)) w) := by
  obtain ⟨i0, hi0, hz0, hz1, hz2⟩ := info_parts Tryd.infoStr
  obtain ⟨Z, hZ⟩ : ∃ Z, Z = lnE l 0 (cutE l c) := ⟨_, rfl⟩
  rw [← hZ]
  have hcl : c.length ≤ 60 := by
    have hdl := hd.len
    cases c with
    | nil => simp
    | cons x c => have := rs_len hr (by have := hr.2.1; omega); omega
  have hc1 := h.c1
  have hc2 := h.c2
  have hc3 := hn.c1
  have hc4 := hn.c2
  rw [nts_len] at hc3
  unfold maxLen at hc2 hc4
  have hl := hd.len
  have H := hide h
  have HN := hide hn.ce
  have HR := hide hr
  have HD := hide hd
  have HZ := hide hZ
  have LO : Hid (∀ (g o x y : Nat) (w' : World), StIn w' (some ⟨g, o, none⟩) cap l → x ≤ y → y ≤ l.length → Calls Tryd.prog 115 #[.slice (some ⟨g, o + x, none⟩) (y - x) (cap - x)] w' fun e w'' => e = .returned (.string (jn (Doc1.sl l x y))) ∧ Below w'.heap.size w' w'') := hide (fun g o x y w' hx h1 h2 => by
    have := lineOf_any (Doc1.sl l x y) _ _ w' (hx.sl x y h1 h2) (fun s hs => ⟨wrd_asc (hd.wr s (mem_sl hs)), (wrd_size (hd.wr s (mem_sl hs))).1⟩) (by have := tt_sl l x y; have := hd.tt_le; omega) (by rw [sl_len h2]; omega)
    rw [sl_len h2] at this
    exact this)
  clear h hn hr hd hZ
  go_enter Tryd.func58, Tryd.ntmps58
  go_wp2
  go_loopw [5, 6, 11] (fun v f i wr => ∃ k : Nat, k ≤ c.length ∧ i = .int .i64 k ∧ f = .int .i64 (((c.take k).getLastD 0 : Nat) : Int) ∧ ∃ v0, v0 = v ∧ Hid (SOwn wr w.heap.size v0 (lnE l 0 (c.take k)) ∧ Below w.heap.size w wr)) (fun _ _ i _ => c.length - (intOf i).toNat)
  case atStart => exact ⟨0, Nat.zero_le _, rfl, rfl, _, rfl, hide ⟨World.ownsRow_nil _ _ _ _, Below.refl _ _⟩⟩
  case round =>
    obtain ⟨k, hk, rfl, rfl, v, hv0, HO⟩ := hrel
    subst hv0
    have hB := HO.out.2.size
    have hlk : (lnE l 0 (c.take k)).length ≤ 60 := by rw [lnE_len, List.length_take]; omega
    by_cases hlt : k < c.length
    · obtain ⟨gc, oc, rfl, hgc, hcc⟩ := HN.out k (by rw [nts_len]; exact hlt)
      rw [nts_at hlt] at hcc
      have c1 : wr.cell? ⟨gc, oc + k, none⟩ = some (.int .i64 (c[k] : Int)) := (World.cell?_of_block (HO.out.2.block gc hgc)).trans hcc
      obtain ⟨hx1, hx2⟩ := rs_at HR.out k hlt
      have hlast : Hid ((c.take (k + 1)).getLastD 0 = c[k]) := hide (lst_take hlt 0)
      have hLn : Hid (lnE l 0 (c.take (k + 1)) = lnE l 0 (c.take k) ++ [jn (Doc1.sl l ((c.take k).getLastD 0) c[k])]) := hide (by rw [List.take_succ_eq_append_getElem hlt, lnE_snoc])
      obtain ⟨y, hy⟩ : ∃ y, y = c[k] := ⟨_, rfl⟩
      obtain ⟨x, hx⟩ : ∃ x, x = (c.take k).getLastD 0 := ⟨_, rfl⟩
      rw [← hy] at hx1 hx2 hlast hLn c1
      rw [← hx] at hx1 hLn ⊢
      obtain ⟨g, o, rfl, hg, -⟩ := H.out.ce 0 (by omega)
      obtain ⟨M, hM⟩ : ∃ M, M = lnE l 0 (c.take k) := ⟨_, rfl⟩
      rw [← hM] at hLn HO hlk
      have hsl := cut_mid g o l.length cap x y (by omega) (by omega) (by omega)
      have hin := H.out.later (HO.out.2)
      have LO1 := hide (LO.out g o x y wr hin (by omega) (by omega))
      obtain ⟨S, hS⟩ : ∃ S, S = jn (Doc1.sl l x y) := ⟨_, rfl⟩
      rw [← hS] at LO1 hLn
      have b1 : (x : Int) ≤ (y : Int) := by omega
      have b2 : (y : Int) ≤ (cap : Int) := by omega
      clear hcc hy hx hin hM hS
      go_wp2_with (first
        | (go_at_call 115; refine LO1.out.mono ?_; rintro e w2 ⟨rfl, hb2⟩; have own2 : SOwn w2 w.heap.size v M := own_below HO.out.1 hb2; have HB2 : Hid (Below w.heap.size w w2) := hide (HO.out.2.trans (hb2.mono hB)); have hB2 := HB2.out.size; clear hb2 LO1)
        | (at_builtin; refine wpList_append_loc _ rfl _ _ 23 rfl w.heap.size 9 i0 (.string ⟨#[]⟩) 1 16 Tryd.underlying23 hi0 hz0 hz1 hz2 rfl (by decide) _ _ _ rfl (World.ownsRow.alloc own2 _) ⟨w2.heap.size, 0, none⟩ 1 1 [.string S] rfl rfl (World.news_of_block (cs := #[.string S]) (t := 9) (fr := (0, 0)) (heap_alloc_new w2 _)) (by simp [Value.oneCell']) (by unfold maxLen; omega) (by omega) (by simp; omega) ?_; intro v3 w3 own3 grow3 loc3; have HR3 : Hid (SOwn w3 w.heap.size v3 (lnE l 0 (c.take (k + 1))) ∧ Below w.heap.size w w3) := hide ⟨(by rw [hLn.out]; exact SOwn.app1 own3), grown_belowB (HB2.out.alloc hB2 _) (by simp; omega) (World.ownsRow.alloc own2 _) grow3⟩; clear own3 grow3 loc3 own2))
      exact ⟨⟨k + 1, by omega, by go_num, by rw [hlast.out], v3, rfl, HR3⟩, by simp [intOf]; omega⟩
    · have ek : c.take k = c := List.take_of_length_le (by omega)
      rw [ek] at HO hlk ⊢
      clear ek
      by_cases h0 : l.length = 0
      · have hZ1 : Hid (Z = lnE l 0 c) := hide (by rw [HZ.out]; unfold cutE; rw [if_pos h0, List.append_nil])
        have hd : decide ((((c.getLastD 0 : Nat)) : Int) < (l.length : Int)) = false := by rw [decide_eq_false_iff_not]; omega
        go_wp2
        go_ret
        exact ⟨v, rfl, by rw [hZ1.out]; exact HO.out.1, HO.out.2⟩
      · obtain ⟨x, hx⟩ : ∃ x, x = c.getLastD 0 := ⟨_, rfl⟩
        have hx1 : x < l.length := by
          have := rs_last HR.out
          rw [hx]
          by_cases hcn : c = []
          · rw [hcn]; show 0 < _; omega
          · exact this.2 hcn
        have hZ1 : Hid (Z = lnE l 0 c ++ [jn (Doc1.sl l x l.length)]) := hide (by rw [HZ.out]; unfold cutE; rw [if_neg h0, lnE_snoc, ← hx])
        rw [← hx]
        obtain ⟨g, o, rfl, hg, -⟩ := H.out.ce 0 (by omega)
        obtain ⟨M, hM⟩ : ∃ M, M = lnE l 0 c := ⟨_, rfl⟩
        rw [← hM] at hZ1 HO hlk
        have hsl := cut_from g o l.length cap x (by omega) (by omega)
        have hin := H.out.later (HO.out.2)
        have LO1 := hide (LO.out g o x l.length wr hin (by omega) (by omega))
        obtain ⟨S, hS⟩ : ∃ S, S = jn (Doc1.sl l x l.length) := ⟨_, rfl⟩
        rw [← hS] at LO1 hZ1
        have b1 : (x : Int) < (l.length : Int) := by omega
        have b2 : (x : Int) ≤ (l.length : Int) := by omega
        clear hx hin hM hS
        go_wp2_with (first
          | (go_at_call 115; refine LO1.out.mono ?_; rintro e w2 ⟨rfl, hb2⟩; have own2 : SOwn w2 w.heap.size v M := own_below HO.out.1 hb2; have HB2 : Hid (Below w.heap.size w w2) := hide (HO.out.2.trans (hb2.mono hB)); have hB2 := HB2.out.size; clear hb2 LO1)
          | (at_builtin; refine wpList_append_loc _ rfl _ _ 23 rfl w.heap.size 9 i0 (.string ⟨#[]⟩) 1 16 Tryd.underlying23 hi0 hz0 hz1 hz2 rfl (by decide) _ _ _ rfl (World.ownsRow.alloc own2 _) ⟨w2.heap.size, 0, none⟩ 1 1 [.string S] rfl rfl (World.news_of_block (cs := #[.string S]) (t := 9) (fr := (0, 0)) (heap_alloc_new w2 _)) (by simp [Value.oneCell']) (by unfold maxLen; omega) (by omega) (by simp; omega) ?_; intro v3 w3 own3 grow3 loc3; have HR3 : Hid (SOwn w3 w.heap.size v3 Z ∧ Below w.heap.size w w3) := hide ⟨(by rw [hZ1.out]; exact SOwn.app1 own3), grown_belowB (HB2.out.alloc hB2 _) (by simp; omega) (World.ownsRow.alloc own2 _) grow3⟩; clear own3 grow3 loc3 own2))
        go_ret
        exact ⟨v3, rfl, HR3.out.1, HR3.out.2⟩
end Go.Proofs.YtgacajnljplmiabDoor
