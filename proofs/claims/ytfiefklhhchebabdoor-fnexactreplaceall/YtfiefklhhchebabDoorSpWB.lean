/- The contract of impl.spliceAll at one splice. The contract of impl.SpliceOp. -/
import Derived.Test.YtfiefklhhchebabDoorSpWM
import Derived.Deep.RegionLaw
import Derived.Deep.AppendLies
import Derived.Deep.CutRange
namespace Go.Proofs.YtfiefklhhchebabDoor
open Go.RowKit
open Doc1

theorem flt0_spN (s put : ByteArray) (a b : Nat) : flt0 (spL s put a b) = spN s put a b := rfl
theorem spL_sz (s put : ByteArray) (a b : Nat) (hs : s.size ≤ 1048576) (hp : put.size ≤ 1048576) : ∀ i (hi : i < (spL s put a b).length), (spL s put a b)[i].put.size ≤ 1048576 ∧ (spL s put a b)[i].drop.size ≤ 1048576 := by
  have he : (s.extract a b).size ≤ 1048576 := by rw [ByteArray.size_extract]; omega
  intro i hi
  have hm := List.getElem_mem hi
  simp only [spL, List.mem_cons, List.not_mem_nil, or_false] at hm
  have e0 : (⟨#[]⟩ : ByteArray).size ≤ 1048576 := by decide
  rcases hm with e | e | e | e <;> rw [show (spL s put a b)[i] = _ from e]
  · exact ⟨e0, e0⟩
  · exact ⟨hp, e0⟩
  · exact ⟨e0, he⟩
  · exact ⟨e0, e0⟩
/-- A row of one's own that holds parts: its block, with what lies behind them. -/
theorem own_rowC {w : World} {B : Nat} {v : Value} {l : List Pt} (h : POwn w B v l) (h0 : 0 < l.length) : ∃ g cap z, v = .slice (some ⟨g, 0, none⟩) l.length cap ∧ B ≤ g ∧ l.length ≤ cap ∧ cap ≤ maxLen ∧ RowC w g (encP l ++ z) := by
  rcases h.2 with ⟨-, e⟩ | ⟨g, cap, cur, rfl, hb, hh, hle, hm, hz, ht⟩
  · omega
  · refine ⟨g, cap, cur.toList.drop (l.length * 3), rfl, hb, hle, hm, ?_⟩
    unfold RowC
    rw [← ht, List.take_append_drop, Array.toArray_toList]
    exact hh

/-- The parts of one splice, but for the last one. -/
def sp3 (s put : ByteArray) (a b : Nat) : List Value := [.int .i64 (a : Int), .string ⟨#[]⟩, .string ⟨#[]⟩, .int .i64 0, .string put, .string ⟨#[]⟩, .int .i64 0, .string ⟨#[]⟩, .string (s.extract a b)]
theorem sp3_all (s put : ByteArray) (a b : Nat) (h : b ≤ s.size) : encP (spL s put a b) = sp3 s put a b ++ [.int .i64 ((s.size : Int) - (b : Int)), .string ⟨#[]⟩, .string ⟨#[]⟩] := by
  have e : ((s.size - b : Nat) : Int) = (s.size : Int) - (b : Int) := by omega
  rw [← e]
  rfl
theorem sp3_one (s put : ByteArray) (a b : Nat) : ∀ u ∈ sp3 s put a b, u.oneCell' = true := by simp [sp3, Value.oneCell']

theorem spl_grown {w wb w2 : World} {o : Obj} {x : Value} (h : Below w.heap.size w wb) (hs : wb.heap.size = w.heap.size + 1) (hy : wb.cell? ⟨w.heap.size, 1, none⟩ = some x) (hg : (wb.alloc o).drew.grownBy w2 (Value.slice none 0 0).ownBlock) :
    Below w.heap.size w w2 ∧ w2.cell? ⟨w.heap.size, 1, none⟩ = some x := by
  have hsz : (wb.alloc o).heap.size = wb.heap.size + 1 := by simp
  refine ⟨((h.alloc (by omega) o).drew).grown hg (by show _ ≤ (wb.alloc o).heap.size; omega) (fun k e => by cases e), ?_⟩
  refine (World.cell?_of_block (a := ⟨w.heap.size, 1, none⟩) ?_).trans hy
  exact (hg.block w.heap.size (by show _ < (wb.alloc o).heap.size; omega) (fun e => by cases e)).trans (Below.heap_alloc wb o _ (by omega))

set_option maxRecDepth 100000 in
set_option maxHeartbeats 4000000 in
theorem spliceAll_one {w : World} {gs : Nat} (s put : ByteArray) (m n : Nat) (hmn : m ≤ n) (hns : n ≤ s.size) (hls : s.size ≤ 1048576) (hlp : put.size ≤ 1048576)
    (c0 : w.cell? ⟨gs, 0, none⟩ = some (.int .i64 (m : Int))) (c1 : w.cell? ⟨gs, 1, none⟩ = some (.int .i64 (n : Int))) (c2 : w.cell? ⟨gs, 2, none⟩ = some (.string put)) (hT : Tab w) :
    Calls Tryd.prog 25 #[.string s, .slice (some ⟨gs, 0, none⟩) 1 1] w fun e w' => ∃ v, e = .returned (.tuple #[v, .bool (goodO (spN s put m n))]) ∧ POwn w' w.heap.size v (norO (spN s put m n)) ∧ Below w.heap.size w w' := by
  obtain ⟨i0, hi0, hz0, hz1, hz2⟩ := info_parts Tryd.infoPart
  have mi : (m : Int) ≤ (n : Int) := by omega
  have ni : (n : Int) ≤ (s.size : Int) := by omega
  have m0 : (0 : Int) ≤ (m : Int) := by omega
  have HT := hide hT
  have HSZ := hide (spL_sz s put m n hls hlp)
  have HAL := hide (sp3_all s put m n hns)
  have hln : s.size ≤ 9000000 := by omega
  have hwm : IntKind.i64.wrap (m : Int) = (m : Int) := by
    simp only [IntKind.wrap, IntKind.signed, IntKind.bits]
    simp
    omega
  clear hT
  go_enter Tryd.func25, Tryd.ntmps25
  go_wp2
  go_loopw [6, 7, 12] (fun op at' i wr => (op = .slice none 0 0 ∧ at' = .int .i64 0 ∧ i = .int .i64 0 ∧ wr = w) ∨ (at' = .int .i64 (n : Int) ∧ i = .int .i64 1 ∧ Hid (wr.ownsRow w.heap.size 54 3 op 3 (sp3 s put m n) ∧ Below w.heap.size w wr))) (fun _ _ i _ => 1 - (intOf i).toNat)
  case atStart => exact .inl ⟨rfl, rfl, rfl, rfl⟩
  case round =>
    rcases hrel with ⟨rfl, rfl, rfl, rfl⟩ | ⟨rfl, rfl, HO⟩
    · obtain ⟨y0, y1, y2⟩ := cells3_new' wr (.int .i64 (m : Int)) (.int .i64 (n : Int)) (.string put)
      go_wp2_with fail
      obtain ⟨wb, hwb⟩ : ∃ wb, wb = wr.alloc (.cells #[.int .i64 (m : Int), .int .i64 (n : Int), .string put] 47) := ⟨_, rfl⟩
      rw [← hwb]
      replace y0 := y0 47
      replace y1 := y1 47
      replace y2 := y2 47
      rw [← hwb] at y0 y1 y2
      have hbb : Below wr.heap.size wr wb := by rw [hwb]; exact (Below.refl _ _).alloc (Nat.le_refl _) _
      have hsb : wb.heap.size = wr.heap.size + 1 := by rw [hwb]; simp
      have HSB := hide hsb
      have HBB := hide hbb
      clear hwb hsb hbb
      go_cut [6, 12] from 12 to 36 (fun op i wx => i = .int .i64 0 ∧ Hid (wx.ownsRow wr.heap.size 54 3 op 3 (sp3 s put m n) ∧ Below wr.heap.size wr wx) ∧ wx.cell? ⟨wr.heap.size, 1, none⟩ = some (.int .i64 (n : Int)))
      case first =>
        go_region_law
          ((refine step_append_lies _ (by rfl) _ _ _ (by rfl) wr.heap.size 54 i0 _ 3 40 Tryd.underlying28 hi0 hz0 hz1 hz2 rfl (by omega) (.slice none 0 0) 0 [] (by rfl) (World.ownsRow_nil _ _ _ _)
              ⟨wb.heap.size, 0, none⟩ 3 3 (sp3 s put m n) (by rfl) (by rfl) (World.news_of_block (cs := (sp3 s put m n).toArray) (t := 54) (fr := (0, 0)) (by first | exact heap_alloc_new wb _ | (rw [hwm]; exact heap_alloc_new wb _))) (sp3_one s put m n)
              (by omega) (by unfold maxLen; omega) (by omega) (by have := HBB.out.size; simp; omega) (wb.heap.size + 1) (by simp) ?_; intro gg cap w2 hown1 hgrow hat hlt))
        all_goals
          have hq : Below wr.heap.size wr w2 ∧ w2.cell? ⟨wr.heap.size, 1, none⟩ = some (.int .i64 (n : Int)) := spl_grown HBB.out HSB.out y1 hgrow
          go_wp2_with fail
          go_meet
          case rel => exact ⟨rfl, hide ⟨hown1, hq.1⟩, hq.2⟩
      case rest =>
        obtain ⟨rfl, HQ, yy⟩ := hcut
        go_wp2
        go_roundw
        case rel => exact .inr ⟨rfl, by go_num, HQ⟩
        case measure => simp [intOf]
    · obtain ⟨hown, hbel⟩ := HO.out
      have hsz := hbel.size
      go_wp2_with (at_builtin; refine wpList_append_loc _ rfl _ _ 28 rfl w.heap.size 54 i0 (.agg #[.int .i64 0, .string ⟨#[]⟩, .string ⟨#[]⟩]) 3 40 Tryd.underlying28 hi0 hz0 hz1 hz2 rfl (by decide) _ 3 (sp3 s put m n) rfl (hown.alloc _) ⟨wr.heap.size, 0, none⟩ 1 1 [.int .i64 ((s.size : Int) - (n : Int)), .string ⟨#[]⟩, .string ⟨#[]⟩] rfl rfl (cell3_at _ _ rfl _ _ _ _) (by intro u hu; simp at hu; rcases hu with rfl | rfl | rfl <;> rfl) (by unfold maxLen; omega) (by omega) (by simp; omega) ?_; intro v2 w2 hown2 hgrow2 hloc2)
      have hb2 := below_append hbel hown hsz hgrow2
      have ho : POwn w2 w.heap.size v2 (spL s put m n) := by unfold POwn; rw [HAL.out]; exact hown2
      obtain ⟨g, cap, z, rfl, hg, hle, hm, hr⟩ := own_rowC ho (by simp [spL])
      have pin : Pin w2 (some ⟨g, 0, none⟩) g cap (spL s put m n) := ⟨⟨hle, hm⟩, HSZ.out, by simp [spL], fun j u hu => hr.cls j u (by rw [List.getElem?_append_left (List.getElem?_eq_some_iff.1 hu).1]; exact hu), hr.lt, fun _ => rfl⟩
      have D := hide (deleteFunc_any pin hr)
      have HB2 := hide hb2
      clear hown hbel HO hown2 hgrow2 hloc2 ho hle hm hr pin hb2
      go_wp2_with fail
      refine D.out.mono ?_
      rintro e w3 ⟨rfl, hpin, hmv⟩
      have hb3 := HB2.out.trans (hmv.below HB2.out.size (fun k hk e => by omega))
      have N := hide (normalI hpin (HT.out.below hb3))
      have HB3 := hide hb3
      clear hmv hpin hb3 D
      go_wp2_with fail
      refine N.out.mono ?_
      rintro e w4 ⟨v4, rfl, o4, hb4⟩
      go_wp2
      go_ret2
      exact ⟨_, rfl, POwn.mono o4 HB3.out.size, HB3.out.trans (hb4.mono HB3.out.size)⟩
end Go.Proofs.YtfiefklhhchebabDoor

namespace Go.Proofs.YtfiefklhhchebabDoor
open Go.RowKit
open Doc1

theorem keepL_good {n : Nat} (h : n ≤ 300) : goodO (keepL (n : Int)) = true := by
  unfold keepL
  split
  · rename_i h1
    have hp : ∀ p ∈ [(⟨(n : Int), ⟨#[]⟩, ⟨#[]⟩⟩ : Pt)], pk p ≠ 0 := fun p hm => by
      rw [List.mem_singleton] at hm
      subst hm
      unfold pk
      rw [if_pos ⟨rfl, rfl, h1⟩]
      omega
    unfold goodO
    rw [all_gpS hp]
    have e0 : (⟨#[]⟩ : ByteArray).size = 0 := rfl
    simp [tkL, mkL, tk1, mk1, e0]
    omega
  · rfl

end Go.Proofs.YtfiefklhhchebabDoor
