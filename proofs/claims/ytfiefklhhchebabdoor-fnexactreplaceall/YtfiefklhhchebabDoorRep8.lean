/- The program's spliceAll at any splices that stand from left to right. -/
import Derived.Test.YtfiefklhhchebabDoorRepN
import Derived.Test.YtfiefklhhchebabDoorSpWB
set_option linter.unusedVariables false
namespace Go.Proofs.YtfiefklhhchebabDoor
open Go.RowKit
open Doc1

theorem flt_ftP (l : List Pt) : flt0 l = ftP l := by
  unfold flt0 ftP
  apply List.filter_congr
  intro p _
  rw [decide_eq_decide]
  exact Iff.rfl
/-- The cells of three parts. -/
def sp9 (n : Int) (put d : ByteArray) : List Value := [.int .i64 n, .string ⟨#[]⟩, .string ⟨#[]⟩, .int .i64 0, .string put, .string ⟨#[]⟩, .int .i64 0, .string ⟨#[]⟩, .string d]
theorem sp9_one (n : Int) (put d : ByteArray) : ∀ u ∈ sp9 n put d, u.oneCell' = true := by simp [sp9, Value.oneCell']
theorem gA_take {s : ByteArray} {ys : List Spl} {k : Nat} (h : k < ys.length) : gA s (ys.take (k + 1)) = gS s (gA s (ys.take k)) ys[k] := by rw [List.take_succ_eq_append_getElem h, gA_snoc]
theorem gA_len (s : ByteArray) (ys : List Spl) : ∀ k, k ≤ ys.length → (gA s (ys.take k)).1.length = 3 * k
  | 0, _ => by simp [gA]
  | k + 1, h => by
    rw [gA_take (by omega)]
    unfold gS
    rw [List.length_append, gA_len s ys k (by omega)]
    simp; omega
theorem enc_three (l : List Pt) (n : Nat) (put d : ByteArray) : encP (l ++ [⟨(n : Int), e0, e0⟩, ⟨0, put, e0⟩, ⟨0, e0, d⟩]) = encP l ++ sp9 (n : Int) put d := by
  rw [encP_app]; rfl
theorem spl_grown2 {w wr wb w2 : World} {B n : Nat} {e : TypeId} {o : Obj} {v x : Value} {xs : List Value} (h : Below B w wb) (hB : B ≤ wb.heap.size) (hs : wb.heap.size = wr.heap.size + 1) (ho : wr.ownsRow B e 3 v n xs) (hy : wb.cell? ⟨wr.heap.size, 1, none⟩ = some x) (hg : (wb.alloc o).drew.grownBy w2 v.ownBlock) :
    Below B w w2 ∧ w2.cell? ⟨wr.heap.size, 1, none⟩ = some x := by
  have hsz : (wb.alloc o).heap.size = wb.heap.size + 1 := by simp
  refine ⟨((h.alloc hB o).drew).grown hg (by show _ ≤ (wb.alloc o).heap.size; omega) (fun k e => (ho.lt k e).1), ?_⟩
  refine (World.cell?_of_block (a := ⟨wr.heap.size, 1, none⟩) ?_).trans hy
  refine (hg.block wr.heap.size (by show _ < (wb.alloc o).heap.size; omega) (fun e => ?_)).trans (Below.heap_alloc wb o _ (by omega))
  have := (ho.lt _ e.symm).2
  omega
theorem raw_sz {s : ByteArray} {ys : List Spl} {M : Nat} (hs : s.size ≤ 300) (hb : PutB M ys) (hM : M ≤ 1048576) : ∀ q ∈ rawG s ys, q.put.size ≤ 1048576 ∧ q.drop.size ≤ 1048576 := by
  have key : ∀ (l : List Spl) (a : List Pt × Nat), PutB M l → (∀ q ∈ a.1, q.put.size ≤ 1048576 ∧ q.drop.size ≤ 1048576) → ∀ q ∈ (l.foldl (gS s) a).1, q.put.size ≤ 1048576 ∧ q.drop.size ≤ 1048576 := by
    intro l
    induction l with
    | nil => intro a _ h; exact h
    | cons y l ih =>
      intro a hl h
      refine ih _ (fun z hz => hl z (by simp [hz])) (fun q hq => ?_)
      unfold gS at hq
      rcases List.mem_append.1 hq with c | c
      · exact h q c
      · have hy := hl y (by simp)
        simp only [List.mem_cons, List.not_mem_nil, or_false] at c
        have z0 : e0.size = 0 := rfl
        rcases c with rfl | rfl | rfl
        · exact ⟨by show e0.size ≤ _; omega, by show e0.size ≤ _; omega⟩
        · exact ⟨by show y.put.size ≤ _; omega, by show e0.size ≤ _; omega⟩
        · exact ⟨by show e0.size ≤ _; omega, by show (s.extract y.frm y.til).size ≤ _; rw [ByteArray.size_extract]; omega⟩
  intro q hq
  unfold rawG at hq
  rcases List.mem_append.1 hq with c | c
  · exact key ys ([], 0) hb (fun q hq => by cases hq) q c
  · rw [List.mem_singleton] at c
    subst c
    have z0 : e0.size = 0 := rfl
    exact ⟨by show e0.size ≤ _; omega, by show e0.size ≤ _; omega⟩

set_option maxRecDepth 100000 in
set_option maxHeartbeats 8000000 in
theorem spliceAll_any {w : World} {B : Nat} {v : Value} {ys : List Spl} (s : ByteArray) (h : SpOwn w B v ys) (ha : Asc s ys) (hs : s.size ≤ 300) (hl : ys.length ≤ 300) (hb : PutB 90000 ys) (hT : Tab w) :
    Calls Tryd.prog 25 #[.string s, v] w fun e w' => ∃ v', e = .returned (.tuple #[v', .bool (goodO (ftP (rawG s ys)))]) ∧ POwn w' w.heap.size v' (norO (ftP (rawG s ys))) ∧ Below w.heap.size w w' := by
  rw [← flt_ftP]
  obtain ⟨i0, hi0, hz0, hz1, hz2⟩ := info_parts Tryd.infoPart
  obtain ⟨a, cap, rfl, k1, k2, hc⟩ := spl_at h
  have HC := hide hc
  have HT := hide hT
  have HSZ := hide (raw_sz hs hb (by omega))
  have HPB := hide hb
  have HAS := hide (asc_take ha)
  have HGL := hide (gA_len s ys)
  have HEND : Hid (∀ A : Nat, A = (gA s ys).2 → A ≤ s.size → encP (rawG s ys) = encP (gA s ys).1 ++ [.int .i64 ((s.size : Int) - (A : Int)), .string ⟨#[]⟩, .string ⟨#[]⟩]) := hide (fun A hA hle => by
    unfold rawG
    rw [encP_app, ← hA]
    have e : ((s.size - A : Nat) : Int) = (s.size : Int) - (A : Int) := by omega
    rw [← e]; rfl)
  have HRL : Hid ((rawG s ys).length = (gA s ys).1.length + 1) := hide (by unfold rawG; simp)
  clear h hc hT hb ha
  go_enter Tryd.func25, Tryd.ntmps25
  go_wp2
  go_loopw [6, 7, 12] (fun op at' i wr => ∃ (k A : Nat), k ≤ ys.length ∧ i = .int .i64 (k : Int) ∧ at' = .int .i64 (A : Int) ∧ A ≤ s.size ∧ Hid (A = (gA s (ys.take k)).2) ∧ ∃ v0, v0 = op ∧ Hid (POwn wr w.heap.size v0 (gA s (ys.take k)).1 ∧ Below w.heap.size w wr)) (fun _ _ i _ => ys.length - (intOf i).toNat)
  case atStart => exact ⟨0, 0, by omega, rfl, rfl, by omega, hide rfl, _, rfl, hide ⟨World.ownsRow_nil _ _ _ _, Below.refl _ _⟩⟩
  case round =>
    obtain ⟨k, A, hk, rfl, rfl, hA, HAE, v, hv0, HR⟩ := hrel
    subst hv0
    by_cases hlt : k < ys.length
    · obtain ⟨g, rfl, c0, c1, c2⟩ := HC.out wr HR.out.2 k hlt
      have hxb := HPB.out _ (List.getElem_mem hlt)
      have has := (HAS.out k hlt).2
      rw [← HAE.out] at has
      have HGT := hide (gA_take (s := s) hlt)
      have hgl := HGL.out k hk
      obtain ⟨x, hx⟩ : ∃ x, ys[k] = x := ⟨_, rfl⟩
      rw [hx] at c0 c1 c2 hxb has HGT
      clear hx
      obtain ⟨m, n, put⟩ := x
      simp only at c0 c1 c2 hxb has
      obtain ⟨y0, y1, y2⟩ := cells3_new' wr (.int .i64 (m : Int)) (.int .i64 (n : Int)) (.string put)
      obtain ⟨L, hL⟩ : ∃ L, (gA s (ys.take k)).1 = L := ⟨_, rfl⟩
      have HG2 : Hid (gA s (ys.take (k + 1)) = (L ++ [⟨((m - A : Nat) : Int), e0, e0⟩, ⟨0, put, e0⟩, ⟨0, e0, s.extract m n⟩], n)) := hide (by rw [HGT.out]; unfold gS; rw [hL, ← HAE.out])
      rw [hL] at hgl HR
      have ho1 : wr.ownsRow w.heap.size 54 3 v L.length (encP L) := HR.out.1
      have mi : (m : Int) ≤ (n : Int) := by omega
      have ni : (n : Int) ≤ (s.size : Int) := by omega
      have m0 : (0 : Int) ≤ (m : Int) := by omega
      have ew : IntKind.i64.wrap ((m : Int) - (A : Int)) = ((m - A : Nat) : Int) := by rw [IntKind.wrap_i64]; omega
      have hmn : m ≤ n := by omega
      have hns : n ≤ s.size := by omega
      have hwsz := HR.out.2.size
      have hLb : L.length ≤ 900 := by omega
      clear HGT hL hgl
      go_wp2_with fail
      obtain ⟨wb, hwb⟩ : ∃ wb, wb = wr.alloc (.cells #[.int .i64 (m : Int), .int .i64 (n : Int), .string put] 47) := ⟨_, rfl⟩
      rw [← hwb]
      replace y0 := y0 47
      replace y1 := y1 47
      replace y2 := y2 47
      rw [← hwb] at y0 y1 y2
      have hbb : Below w.heap.size w wb := by rw [hwb]; exact HR.out.2.alloc hwsz _
      have hob : wb.ownsRow w.heap.size 54 3 v L.length (encP L) := by rw [hwb]; exact ho1.alloc _
      have hsb : wb.heap.size = wr.heap.size + 1 := by rw [hwb]; simp
      have HSB := hide hsb
      have HBB := hide hbb
      have HOB := hide hob
      have HO1 := hide ho1
      clear hwb hsb hbb hob ho1 HR c0 c1 c2
      go_cut [6, 12] from 12 to 36 (fun op i wx => i = .int .i64 (k : Int) ∧ (∃ v0, v0 = op ∧ Hid (POwn wx w.heap.size v0 (gA s (ys.take (k + 1))).1 ∧ Below w.heap.size w wx)) ∧ wx.cell? ⟨wr.heap.size, 1, none⟩ = some (.int .i64 (n : Int)))
      case first =>
        go_region_law
          ((refine step_append_lies _ (by rfl) _ _ _ (by rfl) w.heap.size 54 i0 _ 3 40 Tryd.underlying28 hi0 hz0 hz1 hz2 rfl (by omega) v L.length (encP L) (by rfl) (World.ownsRow.alloc HOB.out _)
              ⟨wb.heap.size, 0, none⟩ 3 3 (sp9 ((m - A : Nat) : Int) put (s.extract m n)) (by rfl) (by rfl) (World.news_of_block (cs := (sp9 ((m - A : Nat) : Int) put (s.extract m n)).toArray) (t := 54) (fr := (0, 0)) (heap_alloc_new wb _)) (sp9_one _ _ _)
              (by omega) (by unfold maxLen; omega) (by omega) (by have := HBB.out.size; simp; omega) (wb.heap.size + 1) (by simp) ?_; intro gg cap w2 hown1 hgrow hat hlt2))
        all_goals
          have hq := spl_grown2 HBB.out HBB.out.size HSB.out HO1.out y1 hgrow
          have HPO : Hid (POwn w2 w.heap.size (.slice (some ⟨gg, 0, none⟩) (L.length + 3) cap) (gA s (ys.take (k + 1))).1) := hide (by rw [HG2.out]; unfold POwn; rw [enc_three, List.length_append]; exact hown1)
          go_wp2_with fail
          go_meet
          case rel => exact ⟨rfl, ⟨_, rfl, hide ⟨HPO.out, hq.1⟩⟩, hq.2⟩
      case rest =>
        obtain ⟨rfl, ⟨v2, hv2, HQ⟩, yy⟩ := hcut
        subst hv2
        go_wp2
        go_roundw
        case rel => exact ⟨k + 1, n, by omega, by go_num, rfl, by omega, hide (by rw [HG2.out]), _, rfl, HQ⟩
        case measure => simp [intOf]; omega
    · obtain hke : k = ys.length := by omega
      have hown := HR.out.1
      have hbel := HR.out.2
      have hgl := HGL.out k hk
      rw [hke, List.take_of_length_le (Nat.le_refl _)] at hown HAE hgl
      obtain ⟨L, hL⟩ : ∃ L, (gA s ys).1 = L := ⟨_, rfl⟩
      have HE2 := HEND.out A HAE.out hA
      have hrl := HRL.out
      rw [hL] at hown HE2 hgl hrl
      have hsz := hbel.size
      have hLb : L.length ≤ 900 := by omega
      have ho1 : wr.ownsRow w.heap.size 54 3 v L.length (encP L) := hown
      have HRl := hide hrl
      replace HE2 := hide HE2
      clear hown hgl hL HR hke hrl
      go_wp2_with (at_builtin; refine wpList_append_loc _ rfl _ _ 28 rfl w.heap.size 54 i0 (.agg #[.int .i64 0, .string ⟨#[]⟩, .string ⟨#[]⟩]) 3 40 Tryd.underlying28 hi0 hz0 hz1 hz2 rfl (by decide) _ L.length (encP L) rfl (ho1.alloc _) ⟨wr.heap.size, 0, none⟩ 1 1 [.int .i64 ((s.size : Int) - (A : Int)), .string ⟨#[]⟩, .string ⟨#[]⟩] rfl rfl (cell3_at _ _ rfl _ _ _ _) (by intro u hu; simp at hu; rcases hu with rfl | rfl | rfl <;> rfl) (by unfold maxLen; omega) (by omega) (by simp; omega) ?_; intro v2 w2 hown2 hgrow2 hloc2)
      have hb2 := below_append hbel ho1 hsz hgrow2
      have ho : POwn w2 w.heap.size v2 (rawG s ys) := by unfold POwn; rw [HE2.out, HRl.out]; exact hown2
      obtain ⟨g, cap, z, rfl, hg, hle, hm, hr⟩ := own_rowC ho (by rw [HRl.out]; omega)
      have pin : Pin w2 (some ⟨g, 0, none⟩) g cap (rawG s ys) := ⟨⟨hle, hm⟩, fun i hi => HSZ.out _ (List.getElem_mem hi), by rw [HRl.out]; omega, fun j u hu => hr.cls j u (by rw [List.getElem?_append_left (List.getElem?_eq_some_iff.1 hu).1]; exact hu), hr.lt, fun _ => rfl⟩
      have D := hide (deleteFunc_any pin hr)
      have HB2 := hide hb2
      clear ho1 hbel hown2 hgrow2 hloc2 ho hle hm hr pin hb2
      go_wp2_with fail
      refine D.out.mono ?_
      rintro e w3 ⟨rfl, hpin, hmv⟩
      have hb3 := HB2.out.trans (hmv.below HB2.out.size (fun k hk e => by omega))
      have N := hide (normalI hpin (HT.out.below hb3))
      have HB3 := hide hb3
      clear hmv hpin hb3 D
      go_wp2_with fail
      refine N.out.mono ?_
      rintro e w4 ⟨v4, rfl, o4, hb4⟩
      go_wp2
      go_ret2
      exact ⟨_, rfl, POwn.mono o4 HB3.out.size, HB3.out.trans (hb4.mono HB3.out.size)⟩
end Go.Proofs.YtfiefklhhchebabDoor
