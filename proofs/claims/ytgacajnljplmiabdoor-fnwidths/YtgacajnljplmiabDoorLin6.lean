/- The greedy cuts, the greedy lines: the program's. -/
import Derived.Test.YtgacajnljplmiabDoorLin5
import Derived.Test.YtgacajnljplmiabDoorOwnI
set_option linter.unusedVariables false
namespace Go.Proofs.YtgacajnljplmiabDoor
open Go.RowKit
open Doc1

/-- How the greedy cuts stand, k words being seen: a line begins at f. -/
structure GC (l : List ByteArray) (n : Int) (k f : Nat) (cs : List Nat) : Prop where
  g : gE l n 0 = cs ++ gE l n f
  r : rs l.length 0 cs
  la : cs.getLastD 0 = f
  z : k = 0 → f = 0 ∧ cs = []
  p : 0 < k → f < k ∧ gx l n f (f + 1) = gx l n f k
theorem GC.start (l : List ByteArray) (n : Int) : GC l n 0 0 [] := ⟨rfl, trivial, rfl, fun _ => ⟨rfl, rfl⟩, fun h => by omega⟩
theorem GC.on {l : List ByteArray} {n : Int} {k f : Nat} {cs : List Nat} (h : GC l n k f cs) (hk : k < l.length) (hw : (wdS l f (k + 1) : Int) ≤ n) : GC l n (k + 1) f cs := by
  refine ⟨h.g, h.r, h.la, fun e => by omega, fun _ => ?_⟩
  by_cases h0 : k = 0
  · obtain ⟨rfl, -⟩ := h.z h0
    subst h0
    exact ⟨by omega, rfl⟩
  · obtain ⟨h1, h2⟩ := h.p (by omega)
    exact ⟨by omega, by rw [h2, gx_yes hk hw]⟩
theorem GC.cut {l : List ByteArray} {n : Int} {k f : Nat} {cs : List Nat} (h : GC l n k f cs) (hd : Sd l n) (hk : k < l.length) (hw : ¬ (wdS l f (k + 1) : Int) ≤ n) : GC l n (k + 1) k (cs ++ [k]) := by
  have h0 : 0 < k := by
    rcases Nat.eq_zero_or_pos k with h0 | h0
    · obtain ⟨rfl, -⟩ := h.z h0
      subst h0
      rw [wdS_one hk] at hw
      exact absurd (hd.fit _ (List.getElem_mem hk)) hw
    · exact h0
  obtain ⟨h1, h2⟩ := h.p h0
  rw [gx_no (fun e => hw e.2)] at h2
  refine ⟨?_, rs_app _ _ _ _ h.r (by rw [h.la]; exact h1) hk, by simp, fun e => by omega, fun _ => ⟨by omega, rfl⟩⟩
  rw [h.g, gE_on (show f < l.length by omega), h2]
  simp
theorem GC.fin {l : List ByteArray} {n : Int} {f : Nat} {cs : List Nat} (h : GC l n l.length f cs) : cutE l cs = gE l n 0 := by
  unfold cutE
  by_cases h0 : l.length = 0
  · obtain ⟨rfl, rfl⟩ := h.z h0
    rw [if_pos h0, gE_end (by omega)]
    rfl
  · obtain ⟨h1, h2⟩ := h.p (by omega)
    rw [if_neg h0, h.g, gE_last h1 (by rw [h2, gx_no (by omega)])]
theorem GC.len {l : List ByteArray} {n : Int} {k f : Nat} {cs : List Nat} (h : GC l n k f cs) : cs.length ≤ l.length := by
  have h1 := h.r
  cases cs with
  | nil => simp
  | cons x c => have := rs_len h1 (by have := h1.2.1; omega); omega

theorem nts_app (a b : List Nat) : nts (a ++ b) = nts a ++ nts b := by simp [nts]
theorem IOwn.app1 {w : World} {B : Nat} {v : Value} {c : List Nat} {k : Nat} (h : w.ownsRow B 3 1 v ((nts c).length + 1) (ints (nts c) ++ [.int .i64 (k : Int)])) : IOwn w B v (nts (c ++ [k])) := by
  unfold IOwn
  rw [nts_app, List.length_append]
  unfold ints at h ⊢
  rw [List.map_append]
  exact h
def GcPost (l : List ByteArray) (n : Int) (w : World) (e : Ending) (w' : World) : Prop := ∃ cs v, e = .returned v ∧ IOwn w' w.heap.size v (nts cs) ∧ rs l.length 0 cs ∧ cutE l cs = gE l n 0 ∧ Below w.heap.size w w'

set_option maxRecDepth 100000 in
set_option maxHeartbeats 4000000 in
theorem greedyCuts_any (l : List ByteArray) (n : Int) (a : Option Addr) (cap : Nat) (w : World) (hd : Sd l n) (h : StIn w a cap l) :
    Calls Tryd.prog 59 #[.int .i64 n, .slice a l.length cap] w (GcPost l n w) := by
  obtain ⟨i0, hi0, hz0, hz1, hz2⟩ := info_parts Tryd.infoIn
  have hc1 := h.c1
  have hc2 := h.c2
  unfold maxLen at hc2
  have hl := hd.len
  have n1 := hd.lo
  have n2 := hd.hi
  have H := hide h
  have HD := hide hd
  have WO : Hid (∀ (g o x y : Nat) (w' : World), StIn w' (some ⟨g, o, none⟩) cap l → x ≤ y → y ≤ l.length → Calls Tryd.prog 114 #[.slice (some ⟨g, o + x, none⟩) (y - x) (cap - x)] w' fun e w'' => e = .returned (.int .i64 ((wdS l x y : Nat) : Int)) ∧ Below w'.heap.size w' w'') := hide (fun g o x y w' hx h1 h2 => by
    have := widthOf_any (Doc1.sl l x y) _ _ w' (hx.sl x y h1 h2) (fun s hs => wrd_asc (hd.wr s (mem_sl hs))) (by have := tt_sl l x y; have := hd.tt_le; omega) (by rw [sl_len h2]; omega)
    rw [← jn_size, sl_len h2] at this
    exact this)
  clear h hd
  go_enter Tryd.func59, Tryd.ntmps59
  go_wp2
  go_loopw [5, 6, 10] (fun v vf i wr => ∃ k f : Nat, k ≤ l.length ∧ f ≤ 60 ∧ i = .int .i64 k ∧ vf = .int .i64 (f : Int) ∧ ∃ v0 cs, v0 = v ∧ Hid (GC l n k f cs) ∧ Hid (IOwn wr w.heap.size v0 (nts cs) ∧ Below w.heap.size w wr)) (fun _ _ i _ => l.length - (intOf i).toNat)
  case atStart => exact ⟨0, 0, Nat.zero_le _, by omega, rfl, rfl, _, [], rfl, hide (GC.start l n), hide ⟨World.ownsRow_nil _ _ _ _, Below.refl _ _⟩⟩
  case round =>
    obtain ⟨k, f, hk, hf6, rfl, rfl, v, cs, hv0, HG, HO⟩ := hrel
    subst hv0
    have hB := HO.out.2.size
    by_cases hlt : k < l.length
    · have hf : f ≤ k := by
        rcases Nat.eq_zero_or_pos k with h0 | h0
        · obtain ⟨rfl, -⟩ := HG.out.z h0; omega
        · have := (HG.out.p h0).1; omega
      obtain ⟨g, o, rfl, hg, -⟩ := H.out.ce 0 (by omega)
      have hsl := cut_mid g o l.length cap f (k + 1) (by omega) (by omega) (by omega)
      rw [show (((k + 1 : Nat)) : Int) = (k : Int) + 1 by omega] at hsl
      have hin := H.out.later (HO.out.2)
      have W1 := hide (WO.out g o f (k + 1) wr hin (by omega) (by omega))
      have hcl : (nts cs).length ≤ 60 := by rw [nts_len]; have := HG.out.len; omega
      have hwl := wdS_le (a := f) (b := k + 1) HD.out.tt_le HD.out.len
      by_cases hw : (wdS l f (k + 1) : Int) ≤ n
      · have HG2 := hide (HG.out.on hlt hw)
        have hdd : decide (n < ((wdS l f (k + 1) : Nat) : Int)) = false := by rw [decide_eq_false_iff_not]; omega
        obtain ⟨q, hq⟩ : ∃ q, q = wdS l f (k + 1) := ⟨_, rfl⟩
        rw [← hq] at W1 hdd hwl
        clear hin hw hq
        go_wp2_with (go_at_call 114; refine W1.out.mono ?_; rintro e w2 ⟨rfl, hb2⟩; have HR2 : Hid (IOwn w2 w.heap.size v (nts cs) ∧ Below w.heap.size w w2) := hide ⟨own_below HO.out.1 hb2, HO.out.2.trans (hb2.mono hB)⟩; clear hb2 W1 HO)
        exact ⟨⟨k + 1, f, by omega, hf6, by go_num, rfl, v, cs, rfl, HG2, HR2⟩, by simp [intOf]; omega⟩
      · have HG2 := hide (HG.out.cut HD.out hlt hw)
        have hdd : decide (n < ((wdS l f (k + 1) : Nat) : Int)) = true := by rw [decide_eq_true_iff]; omega
        obtain ⟨q, hq⟩ : ∃ q, q = wdS l f (k + 1) := ⟨_, rfl⟩
        rw [← hq] at W1 hdd hwl
        clear hin hw hq
        go_wp2_with (first
          | (go_at_call 114; refine W1.out.mono ?_; rintro e w2 ⟨rfl, hb2⟩; have own2 : IOwn w2 w.heap.size v (nts cs) := own_below HO.out.1 hb2; have HB2 : Hid (Below w.heap.size w w2) := hide (HO.out.2.trans (hb2.mono hB)); have hB2 := HB2.out.size; clear hb2 W1 HO)
          | (at_builtin; refine wpList_append_loc _ rfl _ _ 92 rfl w.heap.size 3 i0 (.int .i64 0) 1 8 Tryd.underlying92 hi0 hz0 hz1 hz2 rfl (by decide) _ _ _ rfl (World.ownsRow.alloc own2 _) ⟨w2.heap.size, 0, none⟩ 1 1 [.int .i64 (k : Int)] rfl rfl (World.news_of_block (cs := #[.int .i64 (k : Int)]) (t := 3) (fr := (0, 0)) (heap_alloc_new w2 _)) (by simp [Value.oneCell']) (by unfold maxLen; omega) (by omega) (by simp; omega) ?_; intro v3 w3 own3 grow3 loc3; have HR3 : Hid (IOwn w3 w.heap.size v3 (nts (cs ++ [k])) ∧ Below w.heap.size w w3) := hide ⟨IOwn.app1 own3, grown_belowB (HB2.out.alloc hB2 _) (by simp; omega) (World.ownsRow.alloc own2 _) grow3⟩; clear own3 grow3 loc3 own2))
        exact ⟨⟨k + 1, k, by omega, by omega, by go_num, rfl, v3, cs ++ [k], rfl, HG2, HR3⟩, by simp [intOf]; omega⟩
    · obtain rfl : k = l.length := by omega
      go_wp2
      go_ret
      exact ⟨cs, v, rfl, HO.out.1, HG.out.r, HG.out.fin, HO.out.2⟩

/-- A row of numbers of one's own is one that came in. -/
theorem IOwn.nu {w : World} {B : Nat} {v : Value} {l : List Int} (h : IOwn w B v l) : ∃ a cap, v = .slice a l.length cap ∧ NuIn w a cap l := by
  unfold IOwn at h
  by_cases h0 : l = []
  · subst h0
    obtain ⟨a, cap, rfl, h1, h2⟩ := own_shp h
    exact ⟨a, cap, rfl, h1, h2, fun i hi => by simp at hi⟩
  · obtain ⟨g, cap, rfl, h1, h2, -, h3, h4, -⟩ := own_cat h (List.length_pos_iff.2 h0)
    refine ⟨_, cap, rfl, h1, h2, fun i hi => ⟨g, 0, rfl, h3, ?_⟩⟩
    rw [Nat.zero_add]
    exact h4 i _ (by simp [ints, hi])
theorem SOwn.st {w : World} {B : Nat} {v : Value} {l : List ByteArray} (h : SOwn w B v l) : ∃ a cap, v = .slice a l.length cap ∧ StIn w a cap l := by
  unfold SOwn at h
  by_cases h0 : l = []
  · subst h0
    obtain ⟨a, cap, rfl, h1, h2⟩ := own_shp h
    exact ⟨a, cap, rfl, h1, h2, fun i hi => by simp at hi⟩
  · obtain ⟨g, cap, rfl, h1, h2, -, h3, h4, -⟩ := own_cat h (List.length_pos_iff.2 h0)
    refine ⟨_, cap, rfl, h1, h2, fun i hi => ⟨g, 0, rfl, h3, ?_⟩⟩
    rw [Nat.zero_add]
    exact h4 i _ (by simp [encSt, hi])
def LbPost (L : List ByteArray) (b : Bool) (w : World) (e : Ending) (w' : World) : Prop := ∃ v, e = .returned (.tuple #[v, .bool b]) ∧ SOwn w' w.heap.size v L ∧ Below w.heap.size w w'

set_option maxRecDepth 100000 in
set_option maxHeartbeats 2000000 in
theorem greedyI_any (l : List ByteArray) (n : Int) (a : Option Addr) (cap : Nat) (w : World) (h : StIn w a cap l) (hs : ∀ s ∈ l, s.size ≤ 1048576) (hT : Tab w) :
    Calls Tryd.prog 12 #[.slice a l.length cap, .int .i64 n] w (LbPost (grT l n).1 (grT l n).2 w) := by
  have E := hide (eachFits_any l n a cap w h hs hT)
  by_cases hd : said l n = true
  · rw [hd] at E
    have hg : grT l n = (lnE l 0 (gE l n 0), true) := by unfold grT; rw [if_pos hd]; rfl
    rw [hg]
    have G : Hid (∀ w', Below w.heap.size w w' → Calls Tryd.prog 59 #[.int .i64 n, .slice a l.length cap] w' (GcPost l n w')) := hide (fun w' hb => greedyCuts_any l n a cap w' (said_iff.1 hd) (h.later hb))
    have LA : Hid (∀ (c : List Nat) ac capc w', Below w.heap.size w w' → NuIn w' ac capc (nts c) → rs l.length 0 c → Calls Tryd.prog 58 #[.slice ac c.length capc, .slice a l.length cap] w' (LsPost (lnE l 0 (cutE l c)) w')) := hide (fun c ac capc w' hb hn hr => linesAt_any l c n a ac cap capc w' (said_iff.1 hd) (h.later hb) hn hr)
    clear h hs hT hd hg
    go_enter Tryd.func12, Tryd.ntmps12
    go_wp2_with (go_at_call 57; refine E.out.mono ?_; rintro e w1 ⟨rfl, hb1⟩)
    go_wp2_with fail
    refine (G.out w1 hb1).mono ?_
    rintro e w2 ⟨cs, v, rfl, ho, hr, hc, hb2⟩
    obtain ⟨ac, capc, rfl, hn⟩ := ho.nu
    rw [nts_len]
    have hB2 : Below w.heap.size w w2 := hb1.trans (hb2.mono hb1.size)
    have LA1 := hide (LA.out cs ac capc w2 hB2 hn hr)
    rw [hc] at LA1
    have HB2 := hide hB2
    clear hn hr hc hb2 ho G LA hB2 hb1
    go_wp2_with fail
    refine LA1.out.mono ?_
    rintro e w3 ⟨v3, rfl, ho3, hb3⟩
    go_wp2
    go_ret2
    exact ⟨v3, rfl, own_mono ho3 HB2.out.size, HB2.out.trans (hb3.mono HB2.out.size)⟩
  · have hd2 : said l n = false := by simpa using hd
    rw [hd2] at E
    have hg : grT l n = ([], false) := by unfold grT; rw [if_neg hd]
    rw [hg]
    clear h hs hT hd hg hd2
    go_enter Tryd.func12, Tryd.ntmps12
    go_wp2_with (go_at_call 57; refine E.out.mono ?_; rintro e w1 ⟨rfl, hb1⟩)
    go_ret2
    exact ⟨_, rfl, World.ownsRow_nil _ _ _ _, hb1⟩
end Go.Proofs.YtgacajnljplmiabDoor
