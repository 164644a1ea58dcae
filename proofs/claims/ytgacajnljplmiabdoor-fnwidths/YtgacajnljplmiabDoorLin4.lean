/- A line written anew, lines by cuts, the greedy cuts: the program's. -/
import Derived.Test.YtgacajnljplmiabDoorLin3
set_option linter.unusedVariables false
namespace Go.Proofs.YtgacajnljplmiabDoor
open Go.RowKit
open Doc1

theorem Tryd.infoRune : (Tryd.prog.info? 21).map (fun i => (i.zero, i.size, i.bytes)) = some (some (.int .i32 0), 1, 4) := by kernel_rfl
theorem Tryd.infoStr : (Tryd.prog.info? 9).map (fun i => (i.zero, i.size, i.bytes)) = some (some (.string ⟨#[]⟩), 1, 16) := by kernel_rfl
theorem Tryd.infoIn : (Tryd.prog.info? 3).map (fun i => (i.zero, i.size, i.bytes)) = some (some (.int .i64 0), 1, 8) := by kernel_rfl

theorem asc_app {a b : List UInt8} (h1 : asc a) (h2 : asc b) : asc (a ++ b) := fun c hc => (List.mem_append.1 hc).elim (h1 c) (h2 c)
theorem jn_asc {l : List ByteArray} (h : ∀ s ∈ l, asc s.data.toList) : asc (jn l).data.toList := by
  cases l with
  | nil => intro c hc; cases hc
  | cons a r =>
    have key : ∀ (r : List ByteArray) (s : ByteArray), asc s.data.toList → (∀ x ∈ r, asc x.data.toList) → asc (r.foldl (fun s b => s ++ blB ++ b) s).data.toList := by
      intro r
      induction r with
      | nil => intro s hs _; exact hs
      | cons x r ih =>
        intro s hs hx
        rw [List.foldl_cons]
        refine ih _ ?_ (fun y hy => hx y (by simp [hy]))
        rw [apdB, apdB]
        exact asc_app (asc_app hs (fun c hc => by have : c = 32 := (by simpa [blB] using hc); subst this; decide)) (hx x (by simp))
    exact key r a (h a (by simp)) (fun x hx => h x (by simp [hx]))
theorem jn_take0 {l : List ByteArray} (h : 0 < l.length) : jn (l.take 1) = l[0] := by rw [List.take_succ_eq_append_getElem h]; rfl
theorem jn_takeS {l : List ByteArray} {k : Nat} (h : k < l.length) (hk : 0 < k) : (jn (l.take (k + 1))).data.toList = (jn (l.take k)).data.toList ++ [32] ++ l[k].data.toList := by
  rw [List.take_succ_eq_append_getElem h, jn_snoc _ _ (fun e => by have := congrArg List.length e; rw [List.length_take] at this; simp only [List.length_nil] at this; omega), apdB, apdB]
  rfl
/-- A text made runes, and what is known of the world then. -/
theorem conv_runes2 (w : World) (s : ByteArray) (ha : asc s.data.toList) (hs : s.size ≤ 100000) : ∃ cap W, (convert 9 180 (.string s)).run Tryd.prog w = .ok (.slice (some ⟨w.heap.size, 0, none⟩) s.size cap) W ∧ Below w.heap.size w W ∧ ∀ j u, (s.data.toList.map rvB)[j]? = some u → W.cell? ((⟨w.heap.size, 0, none⟩ : Addr).add j) = some u := by
  obtain ⟨c, cap, h1, h2⟩ := conv_runes w s ha hs
  refine ⟨cap, _, h1, (Below.refl _ _).drew.alloc (Nat.le_refl _) _, fun j u hu => ?_⟩
  have hj : j < s.size := by
    have := (List.getElem?_eq_some_iff.1 hu).1
    rw [List.length_map, ← szB] at this
    exact this
  rw [h2, List.getElem?_take, if_pos hj] at hu
  rw [addr0]
  unfold World.cell?
  rw [show w.heap.size = w.drew.heap.size from rfl, heap_alloc_new]
  simpa using hu

set_option maxRecDepth 100000 in
set_option maxHeartbeats 4000000 in
theorem lineOf_any (l : List ByteArray) (a : Option Addr) (cap : Nat) (w : World) (h : StIn w a cap l) (hs : ∀ s ∈ l, asc s.data.toList ∧ 0 < s.size) (ht : tt l ≤ 100000) (hl : l.length ≤ 100000) :
    Calls Tryd.prog 115 #[.slice a l.length cap] w fun e w' => e = .returned (.string (jn l)) ∧ Below w.heap.size w w' := by
  obtain ⟨i0, hi0, hz0, hz1, hz2⟩ := info_parts Tryd.infoRune
  have HS := hide h.ce
  have HA := hide hs
  have HT := hide ht
  have HL : Hid (∀ k, (jn (l.take k)).data.toList.length ≤ 200000) := hide (fun k => by rw [← szB, jn_size, List.length_take]; have := tt_tk l k; omega)
  clear h hs ht
  go_enter Tryd.func115, Tryd.ntmps115
  go_wp2
  go_loopw [3, 8] (fun v i wr => ∃ k : Nat, k ≤ l.length ∧ i = .int .i64 k ∧ ∃ v0, v0 = v ∧ Hid (RnOwn wr w.heap.size v0 (jn (l.take k)).data.toList ∧ Below w.heap.size w wr)) (fun _ i _ => l.length - (intOf i).toNat)
  case atStart => exact ⟨0, Nat.zero_le _, rfl, _, rfl, hide ⟨World.ownsRow_nil _ _ _ _, Below.refl _ _⟩⟩
  case round =>
    obtain ⟨k, hk, rfl, v, hv0, HR⟩ := hrel
    subst hv0
    by_cases hlt : k < l.length
    · obtain ⟨g, o, rfl, hg, hc⟩ := HS.out k hlt
      have c1 : wr.cell? ⟨g, o + k, none⟩ = some (.string l[k]) := (World.cell?_of_block (HR.out.2.block g hg)).trans hc
      have hB := HR.out.2.size
      have hz := tt_take hlt
      have hy := tt_tk l (k + 1)
      have ht := HT.out
      have hs0 := HA.out _ (List.getElem_mem hlt)
      have hsz : l[k].size ≤ 100000 := by omega
      have CV : Hid (∀ w', ∃ cap W, (convert 9 180 (.string l[k])).run Tryd.prog w' = .ok (.slice (some ⟨w'.heap.size, 0, none⟩) l[k].size cap) W ∧ Below w'.heap.size w' W ∧ ∀ j u, (l[k].data.toList.map rvB)[j]? = some u → W.cell? ((⟨w'.heap.size, 0, none⟩ : Addr).add j) = some u) := hide (fun w' => conv_runes2 w' l[k] hs0.1 hsz)
      have hps := hs0.2
      by_cases h0 : k = 0
      · subst h0
        have HN : Hid (jn (l.take (0 + 1)) = l[0]) := hide (jn_take0 (by omega))
        obtain ⟨s0, hs00⟩ : ∃ s0, l[0] = s0 := ⟨_, rfl⟩
        rw [hs00] at c1 CV hsz hps HN
        rw [Nat.add_zero] at c1
        obtain ⟨cap2, W, hcv, hbw, hnews⟩ := CV.out wr
        have own1 : RnOwn W w.heap.size v (jn (l.take 0)).data.toList := own_below HR.out.1 hbw
        have hBW : Below w.heap.size w W := HR.out.2.trans (hbw.mono hB)
        have HBW := hide hBW
        have hB2 := hBW.size
        obtain ⟨xs, hxs⟩ : ∃ xs, xs = (jn (l.take 0)).data.toList := ⟨_, rfl⟩
        have hx0 : xs = [] := by rw [hxs]; rfl
        rw [← hxs] at own1
        subst hx0
        have HNW := hide hnews
        clear hc hz hy ht hs0 hs00 CV hbw hBW hxs HR hnews
        go_wp2_with (at_builtin; go_loud (refine wpList_append_loc _ rfl _ _ 180 rfl w.heap.size 21 i0 (.int .i32 0) 1 4 Tryd.underlying180 hi0 hz0 hz1 hz2 rfl (by decide) _ _ _ rfl own1 ⟨wr.heap.size, 0, none⟩ s0.size cap2 (s0.data.toList.map rvB) rfl (by rw [List.length_map, ← szB]; omega) HNW.out (by intro u hu; obtain ⟨c, -, rfl⟩ := List.mem_map.1 hu; rfl) (by unfold maxLen; simp; omega) (by simp; omega) hB2 ?_ hps); intro v3 w3 own3 grow3 loc3; have HR3 : Hid (RnOwn w3 w.heap.size v3 (jn (l.take (0 + 1))).data.toList ∧ Below w.heap.size w w3) := hide ⟨(by rw [HN.out]; exact RnOwn.app (b := []) (by rw [szB s0] at own3; exact own3)), grown_belowB HBW.out hB2 own1 grow3⟩; clear own3 grow3 loc3 own1)
        exact ⟨⟨0 + 1, by omega, by go_num, v3, rfl, HR3⟩, by simp [intOf]; omega⟩
      · have HN := hide (jn_takeS hlt (by omega))
        have hkp : decide ((0 : Int) < (k : Int)) = true := by rw [decide_eq_true_iff]; omega
        obtain ⟨s0, hs00⟩ : ∃ s0, l[k] = s0 := ⟨_, rfl⟩
        have hL := HL.out k
        rw [hs00] at c1 CV hsz hps HN
        obtain ⟨xs, hxs⟩ : ∃ xs, xs = (jn (l.take k)).data.toList := ⟨_, rfl⟩
        rw [← hxs] at HN hL HR
        clear hc hz hy ht hs0 hs00 hxs
        go_wp2_with (first
          | (at_builtin; go_loud ((refine wpList_append_loc _ rfl _ _ 180 rfl w.heap.size 21 i0 (.int .i32 0) 1 4 Tryd.underlying180 hi0 hz0 hz1 hz2 rfl (by decide) _ _ _ rfl (World.ownsRow.alloc HR.out.1 _) ⟨wr.heap.size, 0, none⟩ 1 1 [.int .i32 32] rfl rfl (World.news_of_block (cs := #[.int .i32 32]) (t := 21) (fr := (0, 0)) (heap_alloc_new wr _)) (by simp [Value.oneCell']) (by unfold maxLen; omega) (by omega) (by simp; omega) ?_); intro v3 w3 own3 grow3 loc3; have HR3 : Hid (RnOwn w3 w.heap.size v3 (xs ++ [32]) ∧ Below w.heap.size w w3) := hide ⟨RnOwn.app (c := [32]) own3, grown_belowB (HR.out.2.alloc hB _) (by simp; omega) (World.ownsRow.alloc HR.out.1 _) grow3⟩; clear own3 grow3 loc3 HR; have hB3 := HR3.out.2.size; obtain ⟨cap2, W, hcv, hbw, hnews⟩ := CV.out w3; have own1 : RnOwn W w.heap.size v3 (xs ++ [32]) := own_below HR3.out.1 hbw; have HBW : Hid (Below w.heap.size w W) := hide (HR3.out.2.trans (hbw.mono hB3)); have hB2 := HBW.out.size; have HNW := hide hnews; clear CV hbw HR3 hnews hB))
          | (at_builtin; go_loud (refine wpList_append_loc _ rfl _ _ 180 rfl w.heap.size 21 i0 (.int .i32 0) 1 4 Tryd.underlying180 hi0 hz0 hz1 hz2 rfl (by decide) _ _ _ rfl own1 ⟨w3.heap.size, 0, none⟩ s0.size cap2 (s0.data.toList.map rvB) rfl (by rw [List.length_map, ← szB]; omega) HNW.out (by intro u hu; obtain ⟨c, -, rfl⟩ := List.mem_map.1 hu; rfl) (by unfold maxLen; simp; omega) (by simp; omega) hB2 ?_ hps); intro v4 w4 own4 grow4 loc4; have HR4 : Hid (RnOwn w4 w.heap.size v4 (jn (l.take (k + 1))).data.toList ∧ Below w.heap.size w w4) := hide ⟨(by rw [HN.out]; exact RnOwn.app (by rw [szB s0] at own4; exact own4)), grown_belowB HBW.out hB2 own1 grow4⟩; clear own4 grow4 loc4 own1))
        exact ⟨⟨k + 1, by omega, by go_num, v4, rfl, HR4⟩, by simp [intOf]; omega⟩
    · have HE : Hid (RnOwn wr w.heap.size v (jn l).data.toList ∧ Below w.heap.size w wr) := hide (by have := HR.out; rw [List.take_of_length_le (by omega)] at this; exact this)
      have hcv := RnOwn.conv HE.out.1 (jn_asc (fun s hs => (HA.out s hs).1))
      rw [show (⟨(jn l).data.toList.toArray⟩ : ByteArray) = jn l from ba_of _] at hcv
      clear HR
      go_wp2
      go_ret
      exact ⟨rfl, HE.out.2⟩
end Go.Proofs.YtgacajnljplmiabDoor
