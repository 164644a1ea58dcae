/- The program's spliceAll at any splices that stand from left to right. The program's ReplaceOp. ReplaceAll, the model's and the program's. The program's ReplaceAll. -/
import Derived.Test.YtfiefklhhchebaaDoorRepU
import Derived.Test.YtfiefklhhchebaaDoorSpWC
import Derived.Test.YtfiefklhhchebaaDoorAppStr
set_option linter.unusedVariables false
namespace Go.Proofs.YtfiefklhhchebaaDoor
open Go.RowKit
open Doc1

theorem flt_ftP (l : List Pt) : flt0 l = ftP l := by
  unfold flt0 ftP
  apply List.filter_congr
  intro p _
  rw [decide_eq_decide]
  exact Iff.rfl
/-- The cells of three parts. -/
def sp9 (n : Int) (put d : ByteArray) : List Value := [.int .i64 n, .string ⟨#[]⟩, .string ⟨#[]⟩, .int .i64 0, .string put, .string ⟨#[]⟩, .int .i64 0, .string ⟨#[]⟩, .string d]
theorem sp9_one (n : Int) (put d : ByteArray) : ∀ u ∈ sp9 n put d, u.oneCell' = true := by simp [sp9, Value.oneCell']
theorem gA_take {s : ByteArray} {ys : List Spl} {k : Nat} (h : k < ys.length) : gA s (ys.take (k + 1)) = gS s (gA s (ys.take k)) ys[k] := by rw [List.take_succ_eq_append_getElem h, gA_snoc]
theorem gA_len (s : ByteArray) (ys : List Spl) : ∀ k, k ≤ ys.length → (gA s (ys.take k)).1.length = 3 * k
  | 0, _ => by simp [gA]
  | k + 1, h => by
    rw [gA_take (by omega)]
    unfold gS
    rw [List.length_append, gA_len s ys k (by omega)]
    simp; omega
theorem enc_three (l : List Pt) (n : Nat) (put d : ByteArray) : encP (l ++ [⟨(n : Int), e0, e0⟩, ⟨0, put, e0⟩, ⟨0, e0, d⟩]) = encP l ++ sp9 (n : Int) put d := by
  rw [encP_app]; rfl
theorem spl_grown2 {w wr wb w2 : World} {B n : Nat} {e : TypeId} {o : Obj} {v x : Value} {xs : List Value} (h : Below B w wb) (hB : B ≤ wb.heap.size) (hs : wb.heap.size = wr.heap.size + 1) (ho : wr.ownsRow B e 3 v n xs) (hy : wb.cell? ⟨wr.heap.size, 1, none⟩ = some x) (hg : (wb.alloc o).drew.grownBy w2 v.ownBlock) :
    Below B w w2 ∧ w2.cell? ⟨wr.heap.size, 1, none⟩ = some x := by
  have hsz : (wb.alloc o).heap.size = wb.heap.size + 1 := by simp
  refine ⟨((h.alloc hB o).drew).grown hg (by show _ ≤ (wb.alloc o).heap.size; omega) (fun k e => (ho.lt k e).1), ?_⟩
  refine (World.cell?_of_block (a := ⟨wr.heap.size, 1, none⟩) ?_).trans hy
  refine (hg.block wr.heap.size (by show _ < (wb.alloc o).heap.size; omega) (fun e => ?_)).trans (Below.heap_alloc wb o _ (by omega))
  have := (ho.lt _ e.symm).2
  omega
theorem raw_sz {s : ByteArray} {ys : List Spl} {M : Nat} (hs : s.size ≤ 300) (hb : PutB M ys) (hM : M ≤ 1048576) : ∀ q ∈ rawG s ys, q.put.size ≤ 1048576 ∧ q.drop.size ≤ 1048576 := by
  have key : ∀ (l : List Spl) (a : List Pt × Nat), PutB M l → (∀ q ∈ a.1, q.put.size ≤ 1048576 ∧ q.drop.size ≤ 1048576) → ∀ q ∈ (l.foldl (gS s) a).1, q.put.size ≤ 1048576 ∧ q.drop.size ≤ 1048576 := by
    intro l
    induction l with
    | nil => intro a _ h; exact h
    | cons y l ih =>
      intro a hl h
      refine ih _ (fun z hz => hl z (by simp [hz])) (fun q hq => ?_)
      unfold gS at hq
      rcases List.mem_append.1 hq with c | c
      · exact h q c
      · have hy := hl y (by simp)
        simp only [List.mem_cons, List.not_mem_nil, or_false] at c
        have z0 : e0.size = 0 := rfl
        rcases c with rfl | rfl | rfl
        · exact ⟨by show e0.size ≤ _; omega, by show e0.size ≤ _; omega⟩
        · exact ⟨by show y.put.size ≤ _; omega, by show e0.size ≤ _; omega⟩
        · exact ⟨by show e0.size ≤ _; omega, by show (s.extract y.frm y.til).size ≤ _; rw [ByteArray.size_extract]; omega⟩
  intro q hq
  unfold rawG at hq
  rcases List.mem_append.1 hq with c | c
  · exact key ys ([], 0) hb (fun q hq => by cases hq) q c
  · rw [List.mem_singleton] at c
    subst c
    have z0 : e0.size = 0 := rfl
    exact ⟨by show e0.size ≤ _; omega, by show e0.size ≤ _; omega⟩

set_option maxRecDepth 100000 in
set_option maxHeartbeats 8000000 in
theorem spliceAll_any {w : World} {B : Nat} {v : Value} {ys : List Spl} (s : ByteArray) (h : SpOwn w B v ys) (ha : Asc s ys) (hs : s.size ≤ 300) (hl : ys.length ≤ 300) (hb : PutB 90000 ys) (hT : Tab w) :
    Calls Tryd.prog 45 #[.string s, v] w fun e w' => ∃ v', e = .returned (.tuple #[v', .bool (goodO (ftP (rawG s ys)))]) ∧ POwn w' w.heap.size v' (norO (ftP (rawG s ys))) ∧ Below w.heap.size w w' := by
  rw [← flt_ftP]
  obtain ⟨i0, hi0, hz0, hz1, hz2⟩ := info_parts Tryd.infoPart
  obtain ⟨a, cap, rfl, k1, k2, hc⟩ := spl_at h
  have HC := hide hc
  have HT := hide hT
  have HSZ := hide (raw_sz hs hb (by omega))
  have HPB := hide hb
  have HAS := hide (asc_take ha)
  have HGL := hide (gA_len s ys)
  have HEND : Hid (∀ A : Nat, A = (gA s ys).2 → A ≤ s.size → encP (rawG s ys) = encP (gA s ys).1 ++ [.int .i64 ((s.size : Int) - (A : Int)), .string ⟨#[]⟩, .string ⟨#[]⟩]) := hide (fun A hA hle => by
    unfold rawG
    rw [encP_app, ← hA]
    have e : ((s.size - A : Nat) : Int) = (s.size : Int) - (A : Int) := by omega
    rw [← e]; rfl)
  have HRL : Hid ((rawG s ys).length = (gA s ys).1.length + 1) := hide (by unfold rawG; simp)
  clear h hc hT hb ha
  go_enter Tryd.func45, Tryd.ntmps45
  go_wp2
  go_loopw [6, 7, 12] (fun op at' i wr => ∃ (k A : Nat), k ≤ ys.length ∧ i = .int .i64 (k : Int) ∧ at' = .int .i64 (A : Int) ∧ A ≤ s.size ∧ Hid (A = (gA s (ys.take k)).2) ∧ ∃ v0, v0 = op ∧ Hid (POwn wr w.heap.size v0 (gA s (ys.take k)).1 ∧ Below w.heap.size w wr)) (fun _ _ i _ => ys.length - (intOf i).toNat)
  case atStart => exact ⟨0, 0, by omega, rfl, rfl, by omega, hide rfl, _, rfl, hide ⟨World.ownsRow_nil _ _ _ _, Below.refl _ _⟩⟩
  case round =>
    obtain ⟨k, A, hk, rfl, rfl, hA, HAE, v, hv0, HR⟩ := hrel
    subst hv0
    by_cases hlt : k < ys.length
    · obtain ⟨g, rfl, c0, c1, c2⟩ := HC.out wr HR.out.2 k hlt
      have hxb := HPB.out _ (List.getElem_mem hlt)
      have has := (HAS.out k hlt).2
      rw [← HAE.out] at has
      have HGT := hide (gA_take (s := s) hlt)
      have hgl := HGL.out k hk
      obtain ⟨x, hx⟩ : ∃ x, ys[k] = x := ⟨_, rfl⟩
      rw [hx] at c0 c1 c2 hxb has HGT
      clear hx
      obtain ⟨m, n, put⟩ := x
      simp only at c0 c1 c2 hxb has
      obtain ⟨y0, y1, y2⟩ := cells3_new' wr (.int .i64 (m : Int)) (.int .i64 (n : Int)) (.string put)
      obtain ⟨L, hL⟩ : ∃ L, (gA s (ys.take k)).1 = L := ⟨_, rfl⟩
      have HG2 : Hid (gA s (ys.take (k + 1)) = (L ++ [⟨((m - A : Nat) : Int), e0, e0⟩, ⟨0, put, e0⟩, ⟨0, e0, s.extract m n⟩], n)) := hide (by rw [HGT.out]; unfold gS; rw [hL, ← HAE.out])
      rw [hL] at hgl HR
      have ho1 : wr.ownsRow w.heap.size 74 3 v L.length (encP L) := HR.out.1
      have mi : (m : Int) ≤ (n : Int) := by omega
      have ni : (n : Int) ≤ (s.size : Int) := by omega
      have m0 : (0 : Int) ≤ (m : Int) := by omega
      have ew : IntKind.i64.wrap ((m : Int) - (A : Int)) = ((m - A : Nat) : Int) := by rw [IntKind.wrap_i64]; omega
      have hmn : m ≤ n := by omega
      have hns : n ≤ s.size := by omega
      have hwsz := HR.out.2.size
      have hLb : L.length ≤ 900 := by omega
      clear HGT hL hgl
      go_wp2_with fail
      obtain ⟨wb, hwb⟩ : ∃ wb, wb = wr.alloc (.cells #[.int .i64 (m : Int), .int .i64 (n : Int), .string put] 66) := ⟨_, rfl⟩
      rw [← hwb]
      replace y0 := y0 66
      replace y1 := y1 66
      replace y2 := y2 66
      rw [← hwb] at y0 y1 y2
      have hbb : Below w.heap.size w wb := by rw [hwb]; exact HR.out.2.alloc hwsz _
      have hob : wb.ownsRow w.heap.size 74 3 v L.length (encP L) := by rw [hwb]; exact ho1.alloc _
      have hsb : wb.heap.size = wr.heap.size + 1 := by rw [hwb]; simp
      have HSB := hide hsb
      have HBB := hide hbb
      have HOB := hide hob
      have HO1 := hide ho1
      clear hwb hsb hbb hob ho1 HR c0 c1 c2
      go_cut [6, 12] from 12 to 36 (fun op i wx => i = .int .i64 (k : Int) ∧ (∃ v0, v0 = op ∧ Hid (POwn wx w.heap.size v0 (gA s (ys.take (k + 1))).1 ∧ Below w.heap.size w wx)) ∧ wx.cell? ⟨wr.heap.size, 1, none⟩ = some (.int .i64 (n : Int)))
      case first =>
        go_region_law
          ((refine step_append_lies _ (by rfl) _ _ _ (by rfl) w.heap.size 74 i0 _ 3 40 Tryd.underlying39 hi0 hz0 hz1 hz2 rfl (by omega) v L.length (encP L) (by rfl) (World.ownsRow.alloc HOB.out _)
              ⟨wb.heap.size, 0, none⟩ 3 3 (sp9 ((m - A : Nat) : Int) put (s.extract m n)) (by rfl) (by rfl) (World.news_of_block (cs := (sp9 ((m - A : Nat) : Int) put (s.extract m n)).toArray) (t := 74) (fr := (0, 0)) (heap_alloc_new wb _)) (sp9_one _ _ _)
              (by omega) (by unfold maxLen; omega) (by omega) (by have := HBB.out.size; simp; omega) (wb.heap.size + 1) (by simp) ?_; intro gg cap w2 hown1 hgrow hat hlt2))
        all_goals
          have hq := spl_grown2 HBB.out HBB.out.size HSB.out HO1.out y1 hgrow
          have HPO : Hid (POwn w2 w.heap.size (.slice (some ⟨gg, 0, none⟩) (L.length + 3) cap) (gA s (ys.take (k + 1))).1) := hide (by rw [HG2.out]; unfold POwn; rw [enc_three, List.length_append]; exact hown1)
          go_wp2_with fail
          go_meet
          case rel => exact ⟨rfl, ⟨_, rfl, hide ⟨HPO.out, hq.1⟩⟩, hq.2⟩
      case rest =>
        obtain ⟨rfl, ⟨v2, hv2, HQ⟩, yy⟩ := hcut
        subst hv2
        go_wp2
        go_roundw
        case rel => exact ⟨k + 1, n, by omega, by go_num, rfl, by omega, hide (by rw [HG2.out]), _, rfl, HQ⟩
        case measure => simp [intOf]; omega
    · obtain hke : k = ys.length := by omega
      have hown := HR.out.1
      have hbel := HR.out.2
      have hgl := HGL.out k hk
      rw [hke, List.take_of_length_le (Nat.le_refl _)] at hown HAE hgl
      obtain ⟨L, hL⟩ : ∃ L, (gA s ys).1 = L := ⟨_, rfl⟩
      have HE2 := HEND.out A HAE.out hA
      have hrl := HRL.out
      rw [hL] at hown HE2 hgl hrl
      have hsz := hbel.size
      have hLb : L.length ≤ 900 := by omega
      have ho1 : wr.ownsRow w.heap.size 74 3 v L.length (encP L) := hown
      have HRl := hide hrl
      replace HE2 := hide HE2
      clear hown hgl hL HR hke hrl
      go_wp2_with (at_builtin; refine wpList_append_loc _ rfl _ _ 39 rfl w.heap.size 74 i0 (.agg #[.int .i64 0, .string ⟨#[]⟩, .string ⟨#[]⟩]) 3 40 Tryd.underlying39 hi0 hz0 hz1 hz2 rfl (by decide) _ L.length (encP L) rfl (ho1.alloc _) ⟨wr.heap.size, 0, none⟩ 1 1 [.int .i64 ((s.size : Int) - (A : Int)), .string ⟨#[]⟩, .string ⟨#[]⟩] rfl rfl (cell3_at _ _ rfl _ _ _ _) (by intro u hu; simp at hu; rcases hu with rfl | rfl | rfl <;> rfl) (by unfold maxLen; omega) (by omega) (by simp; omega) ?_; intro v2 w2 hown2 hgrow2 hloc2)
      have hb2 := below_append hbel ho1 hsz hgrow2
      have ho : POwn w2 w.heap.size v2 (rawG s ys) := by unfold POwn; rw [HE2.out, HRl.out]; exact hown2
      obtain ⟨g, cap, z, rfl, hg, hle, hm, hr⟩ := own_rowC ho (by rw [HRl.out]; omega)
      have pin : Pin w2 (some ⟨g, 0, none⟩) g cap (rawG s ys) := ⟨⟨hle, hm⟩, fun i hi => HSZ.out _ (List.getElem_mem hi), by rw [HRl.out]; omega, fun j u hu => hr.cls j u (by rw [List.getElem?_append_left (List.getElem?_eq_some_iff.1 hu).1]; exact hu), hr.lt, fun _ => rfl⟩
      have D := hide (deleteFunc_any pin hr)
      have HB2 := hide hb2
      clear ho1 hbel hown2 hgrow2 hloc2 ho hle hm hr pin hb2
      go_wp2_with fail
      refine D.out.mono ?_
      rintro e w3 ⟨rfl, hpin, hmv⟩
      have hb3 := HB2.out.trans (hmv.below HB2.out.size (fun k hk e => by omega))
      have N := hide (normalI hpin (HT.out.below hb3))
      have HB3 := hide hb3
      clear hmv hpin hb3 D
      go_wp2_with fail
      refine N.out.mono ?_
      rintro e w4 ⟨v4, rfl, o4, hb4⟩
      go_wp2
      go_ret2
      exact ⟨_, rfl, POwn.mono o4 HB3.out.size, HB3.out.trans (hb4.mono HB3.out.size)⟩
end Go.Proofs.YtfiefklhhchebaaDoor

set_option linter.unusedVariables false
namespace Go.Proofs.YtfiefklhhchebaaDoor
open Go.RowKit
open Doc1

theorem sps_putB {p s W : ByteArray} (h0 : 0 < p.size) (hs : s.size ≤ 300) (hW : W.size ≤ 300) : PutB 300 (sps p s W) := by
  intro y hy
  unfold sps at hy
  obtain ⟨x, hx, rfl⟩ := List.mem_map.1 hy
  have := (plc_is h0 hx).1
  exact ⟨hW, by show x ≤ 300; omega, by show x + p.size ≤ 300; omega⟩
theorem PutB.mono {M N : Nat} {l : List Spl} (h : PutB M l) (hm : M ≤ N) : PutB N l := fun y hy => ⟨Nat.le_trans (h y hy).1 hm, (h y hy).2⟩
theorem sps_len {p s W : ByteArray} (hs : s.size ≤ 300) : (sps p s W).length ≤ 300 := by
  unfold sps; rw [List.length_map]; have := plc_len p s; omega
theorem rep_raw {p s W : ByteArray} (h0 : 0 < p.size) (hp : good p.data.toList = true) (hs : s.size ≤ 300) (hW : good W.data.toList = true) (hWp : ¬ W = p) : repL p s W = ftP (rawG s (jnt (sps p s W))) := by
  unfold repL
  rw [if_neg hWp]
  refine raw_add (sps_asc W h0) (fun q hq => ?_)
  have h := gA_ok (W := W) h0 hp hs hW (sps p s W).length
  rw [List.take_of_length_le (Nat.le_refl _)] at h
  unfold rawG at hq
  rcases List.mem_append.1 hq with c | c
  · exact h.1 q c
  · rw [List.mem_singleton] at c; subst c; exact pk_keep (by omega)
theorem rep_nor {p s W : ByteArray} (h0 : 0 < p.size) (hp : good p.data.toList = true) (hs : s.size ≤ 300) (hW : good W.data.toList = true) (hWp : ¬ W = p) : norO (ftP (rawG s (jnt (sps p s W)))) = if goodO (repL p s W) then repL p s W else [] := by
  rw [rep_raw h0 hp hs hW hWp]
  unfold norO
  by_cases hg : goodO (ftP (rawG s (jnt (sps p s W)))) = true
  · rw [if_pos hg, if_pos hg, raw_norm (sps_asc W h0) hg]
  · rw [if_neg hg, if_neg hg]

set_option maxRecDepth 100000 in
set_option maxHeartbeats 4000000 in
theorem repI_any (p s W : ByteArray) (w : World) (hp : p.size ≤ 1048576) (hs : s.size ≤ 1048576) (hW : W.size ≤ 1048576) (hT : Tab w) :
    Calls Tryd.prog 22 #[.string s, .string p, .string W] w (RoPost p s W w) := by
  have H := replacements_any p s W w hp hs hW hT
  unfold RpPost at H
  by_cases hok : rpOk p s W = true
  · rw [hok, if_pos rfl] at H
    replace H := hide H
    have hk2 := hok
    unfold rpOk at hk2
    rw [Bool.and_eq_true] at hk2
    obtain ⟨-, h0, -, h3, h4, h5⟩ := said_yes hk2.1
    have hB : rpB p s W = goodO (repL p s W) := by unfold rpB; rw [hok]; rfl
    have HT := hide hT
    by_cases hWp : W = p
    · have hq : (W.toList == p.toList) = true := by rw [txt_eq]; exact decide_eq_true hWp
      have hR : repL p s W = keepL (s.size : Int) := by unfold repL; rw [if_pos hWp]
      have hG : goodO (repL p s W) = true := by rw [hR]; exact keepL_good h3
      have hK : keepOk (s.size : Int) = true := by unfold keepOk; exact decide_eq_true (by omega)
      have HK := hide (fun w' => keepI (s.size : Int) w')
      rw [hK] at HK
      have HY := hide (fun v w' ho hb => ro_yes (p := p) (s := s) (W := W) (w := w) (v := v) (w' := w') (by rw [hB, hG]) (by rw [hR]; exact ho) hb)
      clear hok hk2 h4 h5 hB hWp hR hG hK hT
      go_enter Tryd.func22, Tryd.ntmps22
      go_wp2_with fail
      refine H.out.mono ?_
      rintro e w1 ⟨v, rfl, ho, hb1⟩
      have HB1 := hide hb1
      clear ho hb1
      go_wp2_with fail
      refine (HK.out w1).mono ?_
      rintro e w2 ⟨v2, rfl, o2, hb2⟩
      have HY1 := hide (HY.out v2 w2 (POwn.mono o2 HB1.out.size) (HB1.out.trans (hb2.mono HB1.out.size)))
      clear o2 hb2
      go_wp2
      go_ret2
      exact HY1.out
    · have hq : (W.toList == p.toList) = false := by rw [txt_eq]; exact decide_eq_false hWp
      have hW3 := good_le' hk2.2
      have hnr := rep_nor h0 h4 h3 hk2.2 hWp
      have hrr := rep_raw h0 h4 h3 hk2.2 hWp
      have hpb := sps_putB (W := W) h0 h3 hW3
      have hln := sps_len (p := p) (W := W) h3
      have hasc := (jnt_asc (sps_asc (s := s) W h0)).1
      have hjl := jnt_len (sps p s W)
      have hjb : PutB 90000 (jnt (sps p s W)) := by
        have := jnt_putB hpb (sps p s W).length (Nat.le_refl _)
        rw [List.take_of_length_le (Nat.le_refl _)] at this
        exact this.mono (by omega)
      have HJ := hide (fun (w' : World) v (h : SpOwn w' w.heap.size v (sps p s W)) => joinTouching_any h hln hpb)
      have HS := hide (fun (w' : World) B v (h : SpOwn w' B v (jnt (sps p s W))) (hT : Tab w') => spliceAll_any s h hasc h3 (by omega) hjb hT)
      rw [← hrr] at HS hnr
      rw [hnr] at HS
      have HY : Hid (∀ v w', POwn w' w.heap.size v (if goodO (repL p s W) then repL p s W else []) → Below w.heap.size w w' → RoPost p s W w (.returned (.tuple #[v, .bool (goodO (repL p s W))])) w') := hide (fun v w' ho hb => ⟨v, by rw [hB], by unfold rpT; rw [hB]; exact ho, hb⟩)
      clear hok hk2 h4 h5 hB hWp hT hnr hrr hpb hln hasc hjl hjb
      go_enter Tryd.func22, Tryd.ntmps22
      go_wp2_with fail
      refine H.out.mono ?_
      rintro e w1 ⟨v, rfl, ho, hb1⟩
      have HB1 := hide hb1
      have HO1 := hide ho
      clear ho hb1
      go_wp2_with fail
      refine (HJ.out w1 v HO1.out).mono ?_
      rintro e w2 ⟨v2, rfl, o2, hb2⟩
      have HB2 := hide (HB1.out.trans (hb2.mono HB1.out.size))
      have HO2 := hide o2
      clear o2 hb2 HO1 HB1
      go_wp2_with fail
      refine (HS.out w2 _ v2 HO2.out (HT.out.below HB2.out)).mono ?_
      rintro e w3 ⟨v3, rfl, o3, hb3⟩
      have HY1 := hide (HY.out v3 w3 (POwn.mono o3 HB2.out.size) (HB2.out.trans (hb3.mono HB2.out.size)))
      clear o3 hb3
      go_wp2
      go_ret2
      exact HY1.out
  · rw [Bool.not_eq_true] at hok
    have HN := hide (fun w' hb => ro_no (p := p) (s := s) (W := W) (w := w) (w' := w') (by unfold rpB; rw [hok]; rfl) hb)
    rw [hok] at H
    replace H := hide H
    clear hok
    go_enter Tryd.func22, Tryd.ntmps22
    go_wp2_with fail
    refine H.out.mono ?_
    rintro e w1 ⟨v, rfl, ho, hb1⟩
    have HN1 := hide (HN.out w1 hb1)
    clear ho hb1
    go_wp2
    go_ret2
    exact HN1.out
end Go.Proofs.YtfiefklhhchebaaDoor

set_option linter.unusedVariables false
namespace Go.Proofs.YtfiefklhhchebaaDoor
open Go.RowKit
open Doc1

def raB (p s W : ByteArray) : Bool := rpOk p s W && good (txt s (sps p s W)).data.toList
def raT (p s W : ByteArray) : ByteArray := if raB p s W then txt s (sps p s W) else ⟨#[]⟩
def raN (p s W : ByteArray) : Int := if raB p s W then ((plc p s).length : Int) else 0
def RaPost (p s W : ByteArray) (w : World) (e : Ending) (w' : World) : Prop := e = .returned (.tuple #[.string (raT p s W), .int .i64 (raN p s W), .bool (raB p s W)]) ∧ Below w.heap.size w w'
theorem ra_yes {p s W : ByteArray} {w w' : World} (h : raB p s W = true) (hb : Below w.heap.size w w') : RaPost p s W w (.returned (.tuple #[.string (txt s (sps p s W)), .int .i64 ((plc p s).length : Int), .bool true])) w' :=
  ⟨by unfold raT raN; rw [h, if_pos rfl, if_pos rfl], hb⟩
theorem ra_no {p s W : ByteArray} {w w' : World} (h : raB p s W = false) (hb : Below w.heap.size w w') : RaPost p s W w (.returned (.tuple #[.string ⟨#[]⟩, .int .i64 0, .bool false])) w' :=
  ⟨by unfold raT raN; rw [h, if_neg (by simp), if_neg (by simp)], hb⟩
theorem txt_sz {p s W : ByteArray} (h0 : 0 < p.size) (hs : s.size ≤ 300) (hW : W.size ≤ 300) : (txt s (sps p s W)).size ≤ 180300 := by
  have h := tA_sz hs (ys := sps p s W) (M := 300) (fun y hy => (sps_putB h0 hs hW y hy).1) (sps p s W).length (Nat.le_refl _)
  rw [List.take_of_length_le (Nat.le_refl _)] at h
  have := sps_len (p := p) (W := W) hs
  unfold txt
  rw [ByteArray.size_append, ByteArray.size_extract]
  omega

set_option maxRecDepth 100000 in
set_option maxHeartbeats 4000000 in
theorem allS_any (p s W : ByteArray) (w : World) (hp : p.size ≤ 1048576) (hs : s.size ≤ 1048576) (hW : W.size ≤ 1048576) :
    Calls Tryd.prog 21 #[.string s, .string p, .string W] w (RaPost p s W w) := by
  have H := l11Said_any p s w hp hs
  have HG := goodTextS_any W w hW
  by_cases h1 : said p s = true
  · rw [h1] at H
    replace H := hide H
    by_cases h2 : good W.data.toList = true
    · rw [h2] at HG
      replace HG := hide HG
      obtain ⟨-, h0, -, h3, h4, h5⟩ := said_yes h1
      have HR := hide (l11Replace_any p s W w h0 h4 h5 h2)
      have hap := apO_rep (W := W) h0 h4 h3 h2
      have hkd := repL_kd (W := W) h0 h4 h3 h2
      have hrl := (repL_bd (W := W) h0 h4 h3 h2).1
      have HAp := hide (fun (w' : World) v (h : POwn w' w.heap.size v (repL p s W)) => l3Apply_big s h (by omega) hkd h3)
      rw [hap] at HAp
      have htz := txt_sz (W := W) h0 h3 (good_le' h2)
      have HGT := hide (fun w' => goodTextS_any (txt s (sps p s W)) w' (by omega))
      have hB : raB p s W = good (txt s (sps p s W)).data.toList := by unfold raB rpOk; rw [h1, h2]; rfl
      have HYes := hide (fun (h : good (txt s (sps p s W)).data.toList = true) w' hb => ra_yes (p := p) (s := s) (W := W) (w := w) (w' := w') (by rw [hB]; exact h) hb)
      have HNo := hide (fun (h : good (txt s (sps p s W)).data.toList = false) w' hb => ra_no (p := p) (s := s) (W := W) (w := w) (w' := w') (by rw [hB]; exact h) hb)
      obtain ⟨T, hT⟩ : ∃ T, txt s (sps p s W) = T := ⟨_, rfl⟩
      rw [hT] at HAp HGT HYes HNo htz
      clear h1 h2 h4 h5 hap hkd hB hT hrl
      cases hg : good T.data.toList with
      | true =>
        have HY := hide (HYes.out hg)
        rw [hg] at HGT
        clear HYes HNo hg
        go_enter Tryd.func21, Tryd.ntmps21
        go_wp2_with fail
        refine H.out.mono ?_
        rintro e w' ⟨rfl, hw⟩
        replace hw := hw.symm
        subst hw
        go_wp2_with fail
        refine HG.out.mono ?_
        rintro e w' ⟨rfl, hw⟩
        replace hw := hw.symm
        subst hw
        go_wp2_with fail
        refine HR.out.mono ?_
        rintro e w1 ⟨v, rfl, ho, hb1⟩
        have O1 := hide ho
        have HB1 := hide hb1
        clear ho hb1
        go_wp2_with fail
        refine (HAp.out w1 v O1.out).mono ?_
        rintro e w2 ⟨rfl, hb2⟩
        have HB2 := hide (HB1.out.trans (hb2.mono HB1.out.size))
        clear hb2
        go_wp2_with fail
        refine (HGT.out w2).mono ?_
        rintro e w' ⟨rfl, hw⟩
        replace hw := hw.symm
        subst hw
        go_wp2
        go_ret3
        exact HY.out _ HB2.out
      | false =>
        have HY := hide (HNo.out hg)
        rw [hg] at HGT
        clear HYes HNo hg
        go_enter Tryd.func21, Tryd.ntmps21
        go_wp2_with fail
        refine H.out.mono ?_
        rintro e w' ⟨rfl, hw⟩
        replace hw := hw.symm
        subst hw
        go_wp2_with fail
        refine HG.out.mono ?_
        rintro e w' ⟨rfl, hw⟩
        replace hw := hw.symm
        subst hw
        go_wp2_with fail
        refine HR.out.mono ?_
        rintro e w1 ⟨v, rfl, ho, hb1⟩
        have O1 := hide ho
        have HB1 := hide hb1
        clear ho hb1
        go_wp2_with fail
        refine (HAp.out w1 v O1.out).mono ?_
        rintro e w2 ⟨rfl, hb2⟩
        have HB2 := hide (HB1.out.trans (hb2.mono HB1.out.size))
        clear hb2
        go_wp2_with fail
        refine (HGT.out w2).mono ?_
        rintro e w' ⟨rfl, hw⟩
        replace hw := hw.symm
        subst hw
        go_wp2
        go_ret3
        exact HY.out _ HB2.out
    · rw [Bool.not_eq_true] at h2
      have HY := hide (ra_no (p := p) (s := s) (W := W) (w := w) (by unfold raB rpOk; rw [h2, Bool.and_false]; rfl) (Below.refl _ _))
      rw [h2] at HG
      replace HG := hide HG
      clear h1 h2
      go_enter Tryd.func21, Tryd.ntmps21
      go_wp2_with fail
      refine H.out.mono ?_
      rintro e w' ⟨rfl, hw⟩
      replace hw := hw.symm
      subst hw
      go_wp2_with fail
      refine HG.out.mono ?_
      rintro e w' ⟨rfl, hw⟩
      replace hw := hw.symm
      subst hw
      go_wp2
      go_ret3
      exact HY.out
  · rw [Bool.not_eq_true] at h1
    have HY := hide (ra_no (p := p) (s := s) (W := W) (w := w) (by unfold raB rpOk; rw [h1]; rfl) (Below.refl _ _))
    rw [h1] at H
    replace H := hide H
    clear h1 HG
    go_enter Tryd.func21, Tryd.ntmps21
    go_wp2_with fail
    refine H.out.mono ?_
    rintro e w' ⟨rfl, hw⟩
    replace hw := hw.symm
    subst hw
    go_wp2
    go_ret3
    exact HY.out

/-- A text put behind a row of bytes of one's own, in a list of operations. -/
theorem wpList_str {P : Program} {w : World} {ops : Array Oper} {rest : List Oper} {o : Oper} {a : Act} {Q : Exit → Act → World → Prop} (hgd : o.guard = none) (sl x : Operand) (t u : TypeId)
    (ho : o.op = .call { callee := .builtin .append, args := #[sl, x], argTypes := #[t, u] })
    (base : Nat) (e : TypeId) (i : TypeInfo) (ht : P.underlying t = some (.slice e)) (hu : P.underlying u = some .string) (hi : P.info? e = some i) (hz : i.zero = some (.int .u8 0)) (hsize : i.size = 1) (hby : i.bytes = 1)
    (v : Value) (n : Nat) (xs : List Value) (hs : a.eval sl = v) (hown : w.ownsRow base e 1 v n xs) (s : ByteArray) (hx : a.eval x = .string s) (hbytes : n + s.size ≤ 8388608) (hbase : base ≤ w.heap.size)
    (h : ∀ v' w', w'.ownsRow base e 1 v' (n + s.size) (xs ++ byt s.data.toList) → w.grownBy w' v.ownBlock → (v'.ownBlock = v.ownBlock ∨ ∀ x, v'.ownBlock = some x → w.heap.size ≤ x) → wpList P ops Q rest (a.put o.dst v') w') :
    wpList P ops Q (o :: rest) a w := by
  refine wpList_plain hgd fun K hK => ?_
  obtain ⟨v', w', hr, h2, h3, h4⟩ := run_str (P := P) w base t u o.type e i ht hu hi hz hsize hby v n xs hown s hbytes hbase
  unfold Oper.wp execOp
  simp only [ho, resolve, invoke, builtin, Sem.run_bind, Sem.run_pure, Result.andThen_ok, List.map_toArray, List.map_cons, List.map_nil, hs, hx, hr]
  exact hK _ _ (h v' w' h2 h3 h4)
end Go.Proofs.YtfiefklhhchebaaDoor

set_option linter.unusedVariables false
namespace Go.Proofs.YtfiefklhhchebaaDoor
open Go.RowKit
open Doc1

/-- A row of bytes of one's own. -/
def ByOwn (w : World) (B : Nat) (v : Value) (b : ByteArray) : Prop := w.ownsRow B 5 1 v b.size (byt b.data.toList)
theorem ByOwn.app {w : World} {B : Nat} {v : Value} {b c : ByteArray} (h : w.ownsRow B 5 1 v (b.size + c.size) (byt b.data.toList ++ byt c.data.toList)) : ByOwn w B v (b ++ c) := by
  unfold ByOwn
  rw [ByteArray.size_append, apdL]
  unfold byt at h ⊢
  rw [List.map_append]
  exact h
theorem ByOwn.conv {w : World} {B : Nat} {v : Value} {b : ByteArray} (h : ByOwn w B v b) : (convert 22 9 v).run Tryd.prog w = .ok (.string b) w := by
  have h2 : w.ownsRow B 5 1 v b.data.toList.length (byt b.data.toList) := by rw [← sz_list]; exact h
  have := conv_own h2
  have e : (⟨b.data.toList.toArray⟩ : ByteArray) = b := ba_of b
  rw [e] at this
  exact this
theorem grown_cell {w w' : World} {r : Option Nat} {b j : Nat} {x : Value} (hg : w.grownBy w' r) (hne : ∀ k, r = some k → k ≠ b) (hb : b < w.heap.size) (h : w.cell? ⟨b, j, none⟩ = some x) : w'.cell? ⟨b, j, none⟩ = some x :=
  (World.cell?_of_block (a := ⟨b, j, none⟩) (hg.block b hb (fun e => hne b e.symm rfl))).trans h
theorem loc_ne {v v3 : Value} {b n : Nat} (h : v3.ownBlock = v.ownBlock ∨ ∀ x, v3.ownBlock = some x → n ≤ x) (hv : ∀ q, v.ownBlock = some q → q ≠ b) (hn : b < n) : ∀ q, v3.ownBlock = some q → q ≠ b := fun q hq => by
  rcases h with c | c
  · exact hv q (by rw [← c]; exact hq)
  · have := c q hq; omega
theorem grown_belowB {B : Nat} {w w1 w2 : World} {e : TypeId} {size n : Nat} {v : Value} {xs : List Value} (hb : Below B w w1) (hB : B ≤ w1.heap.size) (hown : w1.ownsRow B e size v n xs) (hg : w1.grownBy w2 v.ownBlock) : Below B w w2 :=
  hb.grown hg hB (fun k e => (hown.lt k e).1)

set_option maxRecDepth 100000 in
set_option maxHeartbeats 8000000 in
theorem allI_any (p s W : ByteArray) (w : World) (hp : p.size ≤ 1048576) (hs : s.size ≤ 1048576) (hW : W.size ≤ 1048576) (hT : Tab w) :
    Calls Tryd.prog 20 #[.string s, .string p, .string W] w (RaPost p s W w) := by
  have H := replacements_any p s W w hp hs hW hT
  unfold RpPost at H
  obtain ⟨i0, hi0, hz0, hz1, hz2⟩ := info_parts Tryd.info5
  by_cases hok : rpOk p s W = true
  · rw [hok, if_pos rfl] at H
    replace H := hide H
    have hk2 := hok
    unfold rpOk at hk2
    rw [Bool.and_eq_true] at hk2
    obtain ⟨-, h0, -, h3, h4, h5⟩ := said_yes hk2.1
    have hW3 := good_le' hk2.2
    have hB : raB p s W = good (txt s (sps p s W)).data.toList := by unfold raB; rw [hok]; rfl
    have hln := sps_len (p := p) (W := W) h3
    have hpl : (sps p s W).length = (plc p s).length := by unfold sps; rw [List.length_map]
    have HAS := hide (asc_take (sps_asc (s := s) W h0))
    have HEN := hide (ap_gA (sps_asc (s := s) W h0)).2
    have HPB := hide (sps_putB (W := W) h0 h3 hW3)
    have HTS := hide (tA_sz h3 (ys := sps p s W) (M := 300) (fun y hy => (sps_putB h0 h3 hW3 y hy).1))
    have htz := txt_sz (W := W) h0 h3 hW3
    have HT := hide hT
    have HGT := hide (fun w' (hT : Tab w') => goodTextI_any (txt s (sps p s W)) w' (by omega) hT)
    have HYes := hide (fun (h : good (txt s (sps p s W)).data.toList = true) w' hb => ra_yes (p := p) (s := s) (W := W) (w := w) (w' := w') (by rw [hB]; exact h) hb)
    have HNo := hide (fun (h : good (txt s (sps p s W)).data.toList = false) w' hb => ra_no (p := p) (s := s) (W := W) (w := w) (w' := w') (by rw [hB]; exact h) hb)
    rw [← hpl] at HYes
    have HTX : Hid (txt s (sps p s W) = (tA s (sps p s W)).1 ++ s.extract (tA s (sps p s W)).2 s.size) := hide rfl
    obtain ⟨T, hTt⟩ : ∃ T, txt s (sps p s W) = T := ⟨_, rfl⟩
    rw [hTt] at HGT HYes HNo htz HTX
    obtain ⟨ys, hys⟩ : ∃ ys, sps p s W = ys := ⟨_, rfl⟩
    rw [hys] at H HAS HPB HTS HTX HYes hln HEN
    clear hok hk2 h4 h5 hB hTt hT hys hpl
    go_enter Tryd.func20, Tryd.ntmps20
    go_wp2_with fail
    refine H.out.mono ?_
    rintro e W1 ⟨v, rfl, ho, hb1⟩
    obtain ⟨a, cap, rfl, k1, k2, hc⟩ := spl_at ho
    have HC := hide hc
    have HB1 := hide hb1
    clear ho hc hb1 H
    go_wp2
    go_loopw [11, 12, 27] (fun v va vi wr => ∃ (k A : Nat), k ≤ ys.length ∧ vi = .int .i64 (k : Int) ∧ va = .int .i64 (A : Int) ∧ A ≤ s.size ∧ Hid (A = (tA s (ys.take k)).2) ∧ ∃ v0, v0 = v ∧ Hid (ByOwn wr W1.heap.size v0 (tA s (ys.take k)).1 ∧ Below W1.heap.size W1 wr)) (fun _ _ vi _ => ys.length - (intOf vi).toNat)
    case atStart => exact ⟨0, 0, by omega, rfl, rfl, by omega, hide rfl, _, rfl, hide ⟨World.ownsRow_nil _ _ _ _, Below.refl _ _⟩⟩
    case round =>
      obtain ⟨k, A, hk, rfl, rfl, hA, HAE, v, hv0, HR⟩ := hrel
      subst hv0
      have hts := HTS.out k hk
      by_cases hlt : k < ys.length
      · obtain ⟨g, rfl, c0, c1, c2⟩ := HC.out wr HR.out.2 k hlt
        have hxb := HPB.out _ (List.getElem_mem hlt)
        have has := (HAS.out k hlt).2
        rw [← tA_til, ← HAE.out] at has
        have HGT2 : Hid (tA s (ys.take (k + 1)) = tS s (tA s (ys.take k)) ys[k]) := hide (by rw [List.take_succ_eq_append_getElem hlt, tA_snoc])
        obtain ⟨x, hx⟩ : ∃ x, ys[k] = x := ⟨_, rfl⟩
        rw [hx] at c0 c1 c2 hxb has HGT2
        clear hx
        obtain ⟨m, n, put⟩ := x
        simp only at c0 c1 c2 hxb has
        obtain ⟨L, hL⟩ : ∃ L, (tA s (ys.take k)).1 = L := ⟨_, rfl⟩
        have HG2 : Hid (tA s (ys.take (k + 1)) = (L ++ s.extract A m ++ put, n)) := hide (by rw [HGT2.out]; unfold tS; rw [hL, ← HAE.out])
        rw [hL] at HR hts
        obtain ⟨y0, y1, y2⟩ := cells3_new' wr (.int .i64 (m : Int)) (.int .i64 (n : Int)) (.string put)
        replace y0 := y0 66
        replace y1 := y1 66
        replace y2 := y2 66
        obtain ⟨wb, hwb⟩ : ∃ wb, wr.alloc (.cells #[.int .i64 (m : Int), .int .i64 (n : Int), .string put] 66) = wb := ⟨_, rfl⟩
        have ho1 := HR.out.1
        have hbb : Below W1.heap.size W1 wb := by rw [← hwb]; exact HR.out.2.alloc HR.out.2.size _
        have hob : ByOwn wb W1.heap.size v L := by rw [← hwb]; exact World.ownsRow.alloc ho1 _
        have hsb : wb.heap.size = wr.heap.size + 1 := by rw [← hwb]; simp
        have hlo : ∀ q, v.ownBlock = some q → q ≠ wr.heap.size := fun q hq => by have := (World.ownsRow.lt ho1 q hq).2; omega
        rw [hwb] at y0 y1 y2
        have hes : (s.extract A m).size ≤ 300 := by rw [ByteArray.size_extract]; omega
        have hLb : L.size ≤ 180000 := by omega
        have HBB := hide hbb
        have HOB := hide hob
        have HLO := hide hlo
        have HSB := hide hsb
        replace hwb := hide hwb
        clear HGT2 hL HR ho1 hbb hob hlo hsb hts
        have hAm : A ≤ m := by omega
        have hms : m ≤ s.size := by omega
        have HS0 := hide HBB.out.size
        go_wp2_with (first
          | (at_builtin; (have hb3 := HB3.out); (refine wpList_str rfl _ _ 22 9 rfl W1.heap.size 5 i0 Tryd.underlying22 Tryd.underlying9 hi0 hz0 hz1 hz2 _ _ _ rfl HO3.out put rfl (by rw [ByteArray.size_append]; omega) hb3.size ?_); intro v4 w4 own4 grow4 loc4; (have HR4 : Hid (ByOwn w4 W1.heap.size v4 (tA s (ys.take (k + 1))).1 ∧ Below W1.heap.size W1 w4) := hide ⟨(by rw [HG2.out]; exact ByOwn.app own4), grown_belowB hb3 hb3.size HO3.out grow4⟩); (have t1 := grown_cell grow4 HL3.out HS3.out z1); clear own4 grow4 loc4 z1 z2 hb3)
          | (at_builtin; rw [hwb.out]; (refine wpList_str rfl _ _ 22 9 rfl W1.heap.size 5 i0 Tryd.underlying22 Tryd.underlying9 hi0 hz0 hz1 hz2 _ _ _ rfl HOB.out (s.extract A m) rfl (by omega) HS0.out ?_); intro v3 w3 own3 grow3 loc3; (have HO3 : Hid (ByOwn w3 W1.heap.size v3 (L ++ s.extract A m)) := hide (ByOwn.app own3)); (have HB3 := hide (grown_belowB HBB.out HS0.out HOB.out grow3)); (have z1 := grown_cell grow3 HLO.out (by have := HSB.out; omega) y1); (have z2 := grown_cell grow3 HLO.out (by have := HSB.out; omega) y2); (have HL3 : Hid (∀ q, v3.ownBlock = some q → q ≠ wr.heap.size) := hide (loc_ne loc3 HLO.out (by have h6 := HSB.out; omega))); (have HS3 : Hid (wr.heap.size < w3.heap.size) := hide (by have h5 := grow3.size; have h6 := HSB.out; omega)); clear own3 grow3 loc3 y0 y1 y2 HOB HBB HLO HSB))
        exact ⟨⟨k + 1, n, by omega, by go_num, rfl, by omega, hide (by rw [HG2.out]), _, rfl, HR4⟩, by simp [intOf]; omega⟩
      · obtain hke : k = ys.length := by omega
        obtain ⟨L, hL⟩ : ∃ L, (tA s (ys.take k)).1 = L := ⟨_, rfl⟩
        have HTX2 : Hid (T = L ++ s.extract A s.size) := hide (by rw [HTX.out, ← hL, HAE.out, hke, List.take_of_length_le (Nat.le_refl _)])
        rw [hL] at HR hts
        have HOB := hide HR.out.1
        have HBB := hide HR.out.2
        have hLb : L.size ≤ 180000 := by omega
        have hes : (s.extract A s.size).size ≤ 300 := by rw [ByteArray.size_extract]; omega
        clear HR hL hts HTX
        cases hg : good T.data.toList with
        | true =>
          have HY := hide (HYes.out hg)
          rw [hg] at HGT
          clear HYes HNo hg
          go_wp2_with (first | (at_builtin; (refine wpList_str rfl _ _ 22 9 rfl W1.heap.size 5 i0 Tryd.underlying22 Tryd.underlying9 hi0 hz0 hz1 hz2 _ _ _ rfl HOB.out (s.extract A s.size) rfl (by omega) HBB.out.size ?_); intro v3 w3 own3 grow3 loc3; (have HO3 : Hid (ByOwn w3 W1.heap.size v3 T) := hide (by rw [HTX2.out]; exact ByOwn.app own3)); (have HB3 := hide (HB1.out.trans ((grown_belowB HBB.out HBB.out.size HOB.out grow3).mono HB1.out.size))); (have hcv := ByOwn.conv HO3.out); (have HTT := hide (HT.out.below HB3.out)); clear own3 grow3 loc3 HOB HBB) | (go_at_call 31; refine (HGT.out w3 HTT.out).mono ?_; rintro e w' ⟨rfl, hw⟩; replace hw := hw.symm; subst hw))
          go_wp2
          go_ret3
          exact HY.out _ HB3.out
        | false =>
          have HY := hide (HNo.out hg)
          rw [hg] at HGT
          clear HYes HNo hg
          go_wp2_with (first | (at_builtin; (refine wpList_str rfl _ _ 22 9 rfl W1.heap.size 5 i0 Tryd.underlying22 Tryd.underlying9 hi0 hz0 hz1 hz2 _ _ _ rfl HOB.out (s.extract A s.size) rfl (by omega) HBB.out.size ?_); intro v3 w3 own3 grow3 loc3; (have HO3 : Hid (ByOwn w3 W1.heap.size v3 T) := hide (by rw [HTX2.out]; exact ByOwn.app own3)); (have HB3 := hide (HB1.out.trans ((grown_belowB HBB.out HBB.out.size HOB.out grow3).mono HB1.out.size))); (have hcv := ByOwn.conv HO3.out); (have HTT := hide (HT.out.below HB3.out)); clear own3 grow3 loc3 HOB HBB) | (go_at_call 31; refine (HGT.out w3 HTT.out).mono ?_; rintro e w' ⟨rfl, hw⟩; replace hw := hw.symm; subst hw))
          go_wp2
          go_ret3
          exact HY.out _ HB3.out
  · rw [Bool.not_eq_true] at hok
    have HN := hide (fun w' hb => ra_no (p := p) (s := s) (W := W) (w := w) (w' := w') (by unfold raB; rw [hok]; rfl) hb)
    rw [hok] at H
    replace H := hide H
    clear hok
    go_enter Tryd.func20, Tryd.ntmps20
    go_wp2_with fail
    refine H.out.mono ?_
    rintro e w1 ⟨v, rfl, ho, hb1⟩
    have HN1 := hide (HN.out w1 hb1)
    clear ho hb1
    go_wp2
    go_ret3
    exact HN1.out
end Go.Proofs.YtfiefklhhchebaaDoor
