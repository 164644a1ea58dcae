/- The program's pieces cut out of a text, read as a text; limbs that are split. -/
import Derived.Test.YtgacajnljplmiabDoorRop6
set_option linter.unusedVariables false
namespace Go.Proofs.YtgacajnljplmiabDoor
open Go.RowKit
open Doc1

/-- A text cut into pieces. -/
def cutP (s : ByteArray) (i : Nat) : ByteArray := s.extract (8 * i) (min (8 * i + 8) s.size)
def cutN (s : ByteArray) : Nat := (s.size + 7) / 8
def cutL (s : ByteArray) : List ByteArray := (List.range (cutN s)).map (cutP s)
theorem cutL_len (s : ByteArray) : (cutL s).length = cutN s := by simp [cutL]

set_option maxRecDepth 100000 in
set_option maxHeartbeats 4000000 in
theorem cutInPieces_any (s : ByteArray) (w : World) (hs : s.size ≤ 100000) :
    Calls Tryd.prog 94 #[.string s] w fun e w' => ∃ v, e = .returned v ∧ PcOwn w' w.heap.size v (cutL s) ∧ Below w.heap.size w w' := by
  obtain ⟨i0, hi0, hz0, hz1, hz2⟩ := info_parts Tryd.infoPiece
  go_enter Tryd.func94, Tryd.ntmps94
  go_wp2
  go_loopw [3, 4] (fun v va wr => ∃ (k : Nat), k ≤ cutN s ∧ va = .int .i64 ((8 * k : Nat) : Int) ∧ ∃ v0, v0 = v ∧ Hid (PcOwn wr w.heap.size v0 ((List.range k).map (cutP s)) ∧ Below w.heap.size w wr)) (fun _ va _ => s.size + 8 - (intOf va).toNat)
  case atStart => exact ⟨0, Nat.zero_le _, rfl, _, rfl, hide ⟨PcOwn.nil _ _, Below.refl _ _⟩⟩
  case round =>
    obtain ⟨k, hk, rfl, v, hv0, HR⟩ := hrel
    subst hv0
    unfold cutN at hk
    by_cases hlt : 8 * k < s.size
    · obtain ⟨a, ha⟩ : ∃ a, a = 8 * k := ⟨_, rfl⟩
      rw [← ha] at hlt ⊢
      obtain ⟨m, hm⟩ : ∃ m : Nat, m = min (a + 8) s.size := ⟨_, rfl⟩
      have e1 : IntKind.i64.wrap ((a : Int) + 8) = (a : Int) + 8 := by rw [IntKind.wrap_i64]; omega
      have e2 : min ((a : Int) + 8) (s.size : Int) = (m : Int) := by omega
      have hb1 : (a : Int) ≤ (m : Int) := by omega
      have hb2 : (m : Int) ≤ (s.size : Int) := by omega
      have HC : Hid (s.extract a m = cutP s k) := hide (by unfold cutP; rw [hm, ha])
      have hkk : k ≤ 20000 := by omega
      have HK : Hid (k + 1 ≤ cutN s ∧ a = 8 * k) := hide ⟨by unfold cutN; omega, ha⟩
      clear hm ha hk
      have hB := HR.out.2.size
      go_wp2_with (at_builtin; go_loud (refine wpList_append_loc _ rfl _ _ 123 rfl w.heap.size 146 i0 (.string ⟨#[]⟩) 1 16 Tryd.underlying123 hi0 hz0 hz1 hz2 rfl (by decide) _ _ _ rfl (World.ownsRow.alloc HR.out.1 _) ⟨wr.heap.size, 0, none⟩ 1 1 [.string (s.extract a m)] rfl rfl (World.news_of_block (cs := #[.string (s.extract a m)]) (t := 146) (fr := (0, 0)) (heap_alloc_new wr _)) (by simp [Value.oneCell']) (by unfold maxLen; simp; omega) (by simp; omega) (by simp; omega) ?_); intro v3 w3 own3 grow3 loc3; have HR3 : Hid (PcOwn w3 w.heap.size v3 ((List.range (k + 1)).map (cutP s)) ∧ Below w.heap.size w w3) := hide ⟨(by rw [List.range_succ, List.map_append, List.map_singleton, ← HC.out]; exact PcOwn.app own3), below_append HR.out.2 HR.out.1 hB grow3⟩; clear own3 grow3 loc3 HR)
      exact ⟨⟨k + 1, HK.out.1, by rw [HK.out.2]; congr 1, v3, rfl, HR3⟩, by simp [intOf]; omega⟩
    · have HE : Hid ((List.range k).map (cutP s) = cutL s) := hide (by unfold cutL cutN; rw [show k = (s.size + 7) / 8 by omega])
      have hd : decide (((8 * k : Nat) : Int) < (s.size : Int)) = false := by rw [decide_eq_false_iff_not]; omega
      go_wp2
      go_ret
      exact ⟨v, rfl, by rw [← HE.out]; exact HR.out.1, HR.out.2⟩

/-- Texts put together. -/
def catB (l : List ByteArray) : ByteArray := l.foldl (· ++ ·) eT
theorem catB_snoc (l : List ByteArray) (s : ByteArray) : catB (l ++ [s]) = catB l ++ s := by simp [catB]
theorem catB_fold : ∀ (l : List ByteArray) (a : ByteArray), (l.foldl (· ++ ·) a).data.toList = a.data.toList ++ (l.map fun s => s.data.toList).flatten
  | [], a => by simp
  | s :: l, a => by rw [List.foldl_cons, catB_fold l (a ++ s), apdB]; simp
theorem catB_list (l : List ByteArray) : (catB l).data.toList = (l.map fun s => s.data.toList).flatten := by
  unfold catB; rw [catB_fold]; rfl
theorem catB_size (l : List ByteArray) : (catB l).size = tot l := by
  rw [szB, catB_list, List.length_flatten, List.map_map]
  unfold tot
  congr 1
theorem catB_app (l m : List ByteArray) : catB (l ++ m) = catB l ++ catB m := Doc1.ba_eq (by rw [apdB, catB_list, catB_list, catB_list, List.map_append, List.flatten_append])

set_option maxRecDepth 100000 in
set_option maxHeartbeats 4000000 in
theorem textOfPieces_any (l : List ByteArray) (a : Option Addr) (cap : Nat) (w : World) (hs : ∀ i (h : i < l.length), ∃ g, a = some ⟨g, 0, none⟩ ∧ g < w.heap.size ∧ w.cell? ⟨g, i, none⟩ = some (.string l[i])) (hl : l.length ≤ 100000) (hc : l.length ≤ cap ∧ cap ≤ maxLen) (ht : tot l ≤ 100000) :
    Calls Tryd.prog 86 #[.slice a l.length cap] w fun e w' => e = .returned (.string (catB l)) ∧ Below w.heap.size w w' := by
  obtain ⟨i0, hi0, hz0, hz1, hz2⟩ := info_parts Tryd.info5
  have HS := hide hs
  have HT := hide ht
  clear hs ht
  go_enter Tryd.func86, Tryd.ntmps86
  go_wp2
  go_loopw [3, 8] (fun v vi wr => ∃ (k : Nat), k ≤ l.length ∧ vi = .int .i64 (k : Int) ∧ ∃ v0, v0 = v ∧ Hid (ByOwn wr w.heap.size v0 (catB (l.take k)) ∧ Below w.heap.size w wr)) (fun _ vi _ => l.length - (intOf vi).toNat)
  case atStart => exact ⟨0, by omega, rfl, _, rfl, hide ⟨World.ownsRow_nil _ _ _ _, Below.refl _ _⟩⟩
  case round =>
    obtain ⟨k, hk, rfl, v, hv0, HR⟩ := hrel
    subst hv0
    by_cases hlt : k < l.length
    · obtain ⟨g, rfl, hg, c⟩ := HS.out k hlt
      have c1 : wr.cell? ⟨g, k, none⟩ = some (.string l[k]) := (World.cell?_of_block (HR.out.2.block g hg)).trans c
      have HN : Hid (catB (l.take k) ++ l[k] = catB (l.take (k + 1))) := hide (by rw [List.take_succ_eq_append_getElem hlt, catB_snoc])
      have hz : (catB (l.take k)).size + l[k].size ≤ 200000 := by
        have := HT.out; have := tot_take_drop l k; have := tot_at hlt
        rw [catB_size]; omega
      have hB := HR.out.2.size
      clear c
      go_wp2_with (at_builtin; go_loud (refine wpList_str rfl _ _ 22 146 rfl w.heap.size 5 i0 Tryd.underlying22 Tryd.underlying146 hi0 hz0 hz1 hz2 _ _ _ rfl HR.out.1 l[k] rfl (by omega) hB ?_); intro v3 w3 own3 grow3 loc3; have HR3 : Hid (ByOwn w3 w.heap.size v3 (catB (l.take (k + 1))) ∧ Below w.heap.size w w3) := hide ⟨(by rw [← HN.out]; exact ByOwn.app own3), grown_belowB HR.out.2 hB HR.out.1 grow3⟩; clear own3 grow3 loc3 HR)
      exact ⟨⟨k + 1, by omega, by go_num, v3, rfl, HR3⟩, by simp [intOf]; omega⟩
    · have HE : Hid (ByOwn wr w.heap.size v (catB l) ∧ Below w.heap.size w wr) := hide (by have := HR.out; rw [List.take_of_length_le (by omega)] at this; exact this)
      have hcv := ByOwn.conv HE.out.1
      clear HR
      go_wp2
      go_ret
      exact ⟨rfl, HE.out.2⟩
theorem textOfPieces_own {w : World} {B : Nat} {v : Value} {l : List ByteArray} (h : PcOwn w B v l) (hl : l.length ≤ 100000) (ht : tot l ≤ 100000) :
    Calls Tryd.prog 86 #[v] w fun e w' => e = .returned (.string (catB l)) ∧ Below w.heap.size w w' := by
  obtain ⟨a, cap, rfl, k1, k2, hc⟩ := h.at'
  exact textOfPieces_any l a cap w hc hl ⟨k1, k2⟩ ht
end Go.Proofs.YtgacajnljplmiabDoor
