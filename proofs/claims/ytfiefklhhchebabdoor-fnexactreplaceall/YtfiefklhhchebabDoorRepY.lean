/- ReplaceAll, the model's and the program's. The program's ReplaceAll. -/
import Derived.Test.YtfiefklhhchebabDoorRepX
import Derived.Test.YtfiefklhhchebabDoorRep9
import Derived.Test.YtfiefklhhchebabDoorAppStr
set_option linter.unusedVariables false
namespace Go.Proofs.YtfiefklhhchebabDoor
open Go.RowKit
open Doc1

def raB (p s W : ByteArray) : Bool := rpOk p s W && good (txt s (sps p s W)).data.toList
def raT (p s W : ByteArray) : ByteArray := if raB p s W then txt s (sps p s W) else ⟨#[]⟩
def raN (p s W : ByteArray) : Int := if raB p s W then ((plc p s).length : Int) else 0
def RaPost (p s W : ByteArray) (w : World) (e : Ending) (w' : World) : Prop := e = .returned (.tuple #[.string (raT p s W), .int .i64 (raN p s W), .bool (raB p s W)]) ∧ Below w.heap.size w w'
theorem ra_yes {p s W : ByteArray} {w w' : World} (h : raB p s W = true) (hb : Below w.heap.size w w') : RaPost p s W w (.returned (.tuple #[.string (txt s (sps p s W)), .int .i64 ((plc p s).length : Int), .bool true])) w' :=
  ⟨by unfold raT raN; rw [h, if_pos rfl, if_pos rfl], hb⟩
theorem ra_no {p s W : ByteArray} {w w' : World} (h : raB p s W = false) (hb : Below w.heap.size w w') : RaPost p s W w (.returned (.tuple #[.string ⟨#[]⟩, .int .i64 0, .bool false])) w' :=
  ⟨by unfold raT raN; rw [h, if_neg (by simp), if_neg (by simp)], hb⟩
theorem txt_sz {p s W : ByteArray} (h0 : 0 < p.size) (hs : s.size ≤ 300) (hW : W.size ≤ 300) : (txt s (sps p s W)).size ≤ 180300 := by
  have h := tA_sz hs (ys := sps p s W) (M := 300) (fun y hy => (sps_putB h0 hs hW y hy).1) (sps p s W).length (Nat.le_refl _)
  rw [List.take_of_length_le (Nat.le_refl _)] at h
  have := sps_len (p := p) (W := W) hs
  unfold txt
  rw [ByteArray.size_append, ByteArray.size_extract]
  omega

set_option maxRecDepth 100000 in
set_option maxHeartbeats 4000000 in
theorem allS_any (p s W : ByteArray) (w : World) (hp : p.size ≤ 1048576) (hs : s.size ≤ 1048576) (hW : W.size ≤ 1048576) :
    Calls Tryd.prog 8 #[.string s, .string p, .string W] w (RaPost p s W w) := by
  have H := l11Said_any p s w hp hs
  have HG := goodTextS_any W w hW
  by_cases h1 : said p s = true
  · rw [h1] at H
    replace H := hide H
    by_cases h2 : good W.data.toList = true
    · rw [h2] at HG
      replace HG := hide HG
      obtain ⟨-, h0, -, h3, h4, h5⟩ := said_yes h1
      have HR := hide (l11Replace_any p s W w h0 h4 h5 h2)
      have hap := apO_rep (W := W) h0 h4 h3 h2
      have hkd := repL_kd (W := W) h0 h4 h3 h2
      have hrl := (repL_bd (W := W) h0 h4 h3 h2).1
      have HAp := hide (fun (w' : World) v (h : POwn w' w.heap.size v (repL p s W)) => l3Apply_big s h (by omega) hkd h3)
      rw [hap] at HAp
      have htz := txt_sz (W := W) h0 h3 (good_le' h2)
      have HGT := hide (fun w' => goodTextS_any (txt s (sps p s W)) w' (by omega))
      have hB : raB p s W = good (txt s (sps p s W)).data.toList := by unfold raB rpOk; rw [h1, h2]; rfl
      have HYes := hide (fun (h : good (txt s (sps p s W)).data.toList = true) w' hb => ra_yes (p := p) (s := s) (W := W) (w := w) (w' := w') (by rw [hB]; exact h) hb)
      have HNo := hide (fun (h : good (txt s (sps p s W)).data.toList = false) w' hb => ra_no (p := p) (s := s) (W := W) (w := w) (w' := w') (by rw [hB]; exact h) hb)
      obtain ⟨T, hT⟩ : ∃ T, txt s (sps p s W) = T := ⟨_, rfl⟩
      rw [hT] at HAp HGT HYes HNo htz
      clear h1 h2 h4 h5 hap hkd hB hT hrl
      cases hg : good T.data.toList with
      | true =>
        have HY := hide (HYes.out hg)
        rw [hg] at HGT
        clear HYes HNo hg
        go_enter Tryd.func8, Tryd.ntmps8
        go_wp2_with fail
        refine H.out.mono ?_
        rintro e w' ⟨rfl, hw⟩
        replace hw := hw.symm
        subst hw
        go_wp2_with fail
        refine HG.out.mono ?_
        rintro e w' ⟨rfl, hw⟩
        replace hw := hw.symm
        subst hw
        go_wp2_with fail
        refine HR.out.mono ?_
        rintro e w1 ⟨v, rfl, ho, hb1⟩
        have O1 := hide ho
        have HB1 := hide hb1
        clear ho hb1
        go_wp2_with fail
        refine (HAp.out w1 v O1.out).mono ?_
        rintro e w2 ⟨rfl, hb2⟩
        have HB2 := hide (HB1.out.trans (hb2.mono HB1.out.size))
        clear hb2
        go_wp2_with fail
        refine (HGT.out w2).mono ?_
        rintro e w' ⟨rfl, hw⟩
        replace hw := hw.symm
        subst hw
        go_wp2
        go_ret3
        exact HY.out _ HB2.out
      | false =>
        have HY := hide (HNo.out hg)
        rw [hg] at HGT
        clear HYes HNo hg
        go_enter Tryd.func8, Tryd.ntmps8
        go_wp2_with fail
        refine H.out.mono ?_
        rintro e w' ⟨rfl, hw⟩
        replace hw := hw.symm
        subst hw
        go_wp2_with fail
        refine HG.out.mono ?_
        rintro e w' ⟨rfl, hw⟩
        replace hw := hw.symm
        subst hw
        go_wp2_with fail
        refine HR.out.mono ?_
        rintro e w1 ⟨v, rfl, ho, hb1⟩
        have O1 := hide ho
        have HB1 := hide hb1
        clear ho hb1
        go_wp2_with fail
        refine (HAp.out w1 v O1.out).mono ?_
        rintro e w2 ⟨rfl, hb2⟩
        have HB2 := hide (HB1.out.trans (hb2.mono HB1.out.size))
        clear hb2
        go_wp2_with fail
        refine (HGT.out w2).mono ?_
        rintro e w' ⟨rfl, hw⟩
        replace hw := hw.symm
        subst hw
        go_wp2
        go_ret3
        exact HY.out _ HB2.out
    · rw [Bool.not_eq_true] at h2
      have HY := hide (ra_no (p := p) (s := s) (W := W) (w := w) (by unfold raB rpOk; rw [h2, Bool.and_false]; rfl) (Below.refl _ _))
      rw [h2] at HG
      replace HG := hide HG
      clear h1 h2
      go_enter Tryd.func8, Tryd.ntmps8
      go_wp2_with fail
      refine H.out.mono ?_
      rintro e w' ⟨rfl, hw⟩
      replace hw := hw.symm
      subst hw
      go_wp2_with fail
      refine HG.out.mono ?_
      rintro e w' ⟨rfl, hw⟩
      replace hw := hw.symm
      subst hw
      go_wp2
      go_ret3
      exact HY.out
  · rw [Bool.not_eq_true] at h1
    have HY := hide (ra_no (p := p) (s := s) (W := W) (w := w) (by unfold raB rpOk; rw [h1]; rfl) (Below.refl _ _))
    rw [h1] at H
    replace H := hide H
    clear h1 HG
    go_enter Tryd.func8, Tryd.ntmps8
    go_wp2_with fail
    refine H.out.mono ?_
    rintro e w' ⟨rfl, hw⟩
    replace hw := hw.symm
    subst hw
    go_wp2
    go_ret3
    exact HY.out

/-- A text put behind a row of bytes of one's own, in a list of operations. -/
theorem wpList_str {P : Program} {w : World} {ops : Array Oper} {rest : List Oper} {o : Oper} {a : Act} {Q : Exit → Act → World → Prop} (hgd : o.guard = none) (sl x : Operand) (t u : TypeId)
    (ho : o.op = .call { callee := .builtin .append, args := #[sl, x], argTypes := #[t, u] })
    (base : Nat) (e : TypeId) (i : TypeInfo) (ht : P.underlying t = some (.slice e)) (hu : P.underlying u = some .string) (hi : P.info? e = some i) (hz : i.zero = some (.int .u8 0)) (hsize : i.size = 1) (hby : i.bytes = 1)
    (v : Value) (n : Nat) (xs : List Value) (hs : a.eval sl = v) (hown : w.ownsRow base e 1 v n xs) (s : ByteArray) (hx : a.eval x = .string s) (hbytes : n + s.size ≤ 8388608) (hbase : base ≤ w.heap.size)
    (h : ∀ v' w', w'.ownsRow base e 1 v' (n + s.size) (xs ++ byt s.data.toList) → w.grownBy w' v.ownBlock → (v'.ownBlock = v.ownBlock ∨ ∀ x, v'.ownBlock = some x → w.heap.size ≤ x) → wpList P ops Q rest (a.put o.dst v') w') :
    wpList P ops Q (o :: rest) a w := by
  refine wpList_plain hgd fun K hK => ?_
  obtain ⟨v', w', hr, h2, h3, h4⟩ := run_str (P := P) w base t u o.type e i ht hu hi hz hsize hby v n xs hown s hbytes hbase
  unfold Oper.wp execOp
  simp only [ho, resolve, invoke, builtin, Sem.run_bind, Sem.run_pure, Result.andThen_ok, List.map_toArray, List.map_cons, List.map_nil, hs, hx, hr]
  exact hK _ _ (h v' w' h2 h3 h4)
end Go.Proofs.YtfiefklhhchebabDoor

set_option linter.unusedVariables false
namespace Go.Proofs.YtfiefklhhchebabDoor
open Go.RowKit
open Doc1

/-- A row of bytes of one's own. -/
def ByOwn (w : World) (B : Nat) (v : Value) (b : ByteArray) : Prop := w.ownsRow B 5 1 v b.size (byt b.data.toList)
theorem ByOwn.app {w : World} {B : Nat} {v : Value} {b c : ByteArray} (h : w.ownsRow B 5 1 v (b.size + c.size) (byt b.data.toList ++ byt c.data.toList)) : ByOwn w B v (b ++ c) := by
  unfold ByOwn
  rw [ByteArray.size_append, apdL]
  unfold byt at h ⊢
  rw [List.map_append]
  exact h
theorem ByOwn.conv {w : World} {B : Nat} {v : Value} {b : ByteArray} (h : ByOwn w B v b) : (convert 45 9 v).run Tryd.prog w = .ok (.string b) w := by
  have h2 : w.ownsRow B 5 1 v b.data.toList.length (byt b.data.toList) := by rw [← sz_list]; exact h
  have := conv_own h2
  have e : (⟨b.data.toList.toArray⟩ : ByteArray) = b := ba_of b
  rw [e] at this
  exact this
theorem grown_cell {w w' : World} {r : Option Nat} {b j : Nat} {x : Value} (hg : w.grownBy w' r) (hne : ∀ k, r = some k → k ≠ b) (hb : b < w.heap.size) (h : w.cell? ⟨b, j, none⟩ = some x) : w'.cell? ⟨b, j, none⟩ = some x :=
  (World.cell?_of_block (a := ⟨b, j, none⟩) (hg.block b hb (fun e => hne b e.symm rfl))).trans h
theorem loc_ne {v v3 : Value} {b n : Nat} (h : v3.ownBlock = v.ownBlock ∨ ∀ x, v3.ownBlock = some x → n ≤ x) (hv : ∀ q, v.ownBlock = some q → q ≠ b) (hn : b < n) : ∀ q, v3.ownBlock = some q → q ≠ b := fun q hq => by
  rcases h with c | c
  · exact hv q (by rw [← c]; exact hq)
  · have := c q hq; omega
theorem grown_belowB {B : Nat} {w w1 w2 : World} {e : TypeId} {size n : Nat} {v : Value} {xs : List Value} (hb : Below B w w1) (hB : B ≤ w1.heap.size) (hown : w1.ownsRow B e size v n xs) (hg : w1.grownBy w2 v.ownBlock) : Below B w w2 :=
  hb.grown hg hB (fun k e => (hown.lt k e).1)

set_option maxRecDepth 100000 in
set_option maxHeartbeats 8000000 in
theorem allI_any (p s W : ByteArray) (w : World) (hp : p.size ≤ 1048576) (hs : s.size ≤ 1048576) (hW : W.size ≤ 1048576) (hT : Tab w) :
    Calls Tryd.prog 9 #[.string s, .string p, .string W] w (RaPost p s W w) := by
  have H := replacements_any p s W w hp hs hW hT
  unfold RpPost at H
  obtain ⟨i0, hi0, hz0, hz1, hz2⟩ := info_parts Tryd.info5
  by_cases hok : rpOk p s W = true
  · rw [hok, if_pos rfl] at H
    replace H := hide H
    have hk2 := hok
    unfold rpOk at hk2
    rw [Bool.and_eq_true] at hk2
    obtain ⟨-, h0, -, h3, h4, h5⟩ := said_yes hk2.1
    have hW3 := good_le' hk2.2
    have hB : raB p s W = good (txt s (sps p s W)).data.toList := by unfold raB; rw [hok]; rfl
    have hln := sps_len (p := p) (W := W) h3
    have hpl : (sps p s W).length = (plc p s).length := by unfold sps; rw [List.length_map]
    have HAS := hide (asc_take (sps_asc (s := s) W h0))
    have HEN := hide (ap_gA (sps_asc (s := s) W h0)).2
    have HPB := hide (sps_putB (W := W) h0 h3 hW3)
    have HTS := hide (tA_sz h3 (ys := sps p s W) (M := 300) (fun y hy => (sps_putB h0 h3 hW3 y hy).1))
    have htz := txt_sz (W := W) h0 h3 hW3
    have HT := hide hT
    have HGT := hide (fun w' (hT : Tab w') => goodTextI_any (txt s (sps p s W)) w' (by omega) hT)
    have HYes := hide (fun (h : good (txt s (sps p s W)).data.toList = true) w' hb => ra_yes (p := p) (s := s) (W := W) (w := w) (w' := w') (by rw [hB]; exact h) hb)
    have HNo := hide (fun (h : good (txt s (sps p s W)).data.toList = false) w' hb => ra_no (p := p) (s := s) (W := W) (w := w) (w' := w') (by rw [hB]; exact h) hb)
    rw [← hpl] at HYes
    have HTX : Hid (txt s (sps p s W) = (tA s (sps p s W)).1 ++ s.extract (tA s (sps p s W)).2 s.size) := hide rfl
    obtain ⟨T, hTt⟩ : ∃ T, txt s (sps p s W) = T := ⟨_, rfl⟩
    rw [hTt] at HGT HYes HNo htz HTX
    obtain ⟨ys, hys⟩ : ∃ ys, sps p s W = ys := ⟨_, rfl⟩
    rw [hys] at H HAS HPB HTS HTX HYes hln HEN
    clear hok hk2 h4 h5 hB hTt hT hys hpl
    go_enter Tryd.func9, Tryd.ntmps9
    go_wp2_with fail
    refine H.out.mono ?_
    rintro e W1 ⟨v, rfl, ho, hb1⟩
    obtain ⟨a, cap, rfl, k1, k2, hc⟩ := spl_at ho
    have HC := hide hc
    have HB1 := hide hb1
    clear ho hc hb1 H
    go_wp2
    go_loopw [11, 12, 27] (fun v va vi wr => ∃ (k A : Nat), k ≤ ys.length ∧ vi = .int .i64 (k : Int) ∧ va = .int .i64 (A : Int) ∧ A ≤ s.size ∧ Hid (A = (tA s (ys.take k)).2) ∧ ∃ v0, v0 = v ∧ Hid (ByOwn wr W1.heap.size v0 (tA s (ys.take k)).1 ∧ Below W1.heap.size W1 wr)) (fun _ _ vi _ => ys.length - (intOf vi).toNat)
    case atStart => exact ⟨0, 0, by omega, rfl, rfl, by omega, hide rfl, _, rfl, hide ⟨World.ownsRow_nil _ _ _ _, Below.refl _ _⟩⟩
    case round =>
      obtain ⟨k, A, hk, rfl, rfl, hA, HAE, v, hv0, HR⟩ := hrel
      subst hv0
      have hts := HTS.out k hk
      by_cases hlt : k < ys.length
      · obtain ⟨g, rfl, c0, c1, c2⟩ := HC.out wr HR.out.2 k hlt
        have hxb := HPB.out _ (List.getElem_mem hlt)
        have has := (HAS.out k hlt).2
        rw [← tA_til, ← HAE.out] at has
        have HGT2 : Hid (tA s (ys.take (k + 1)) = tS s (tA s (ys.take k)) ys[k]) := hide (by rw [List.take_succ_eq_append_getElem hlt, tA_snoc])
        obtain ⟨x, hx⟩ : ∃ x, ys[k] = x := ⟨_, rfl⟩
        rw [hx] at c0 c1 c2 hxb has HGT2
        clear hx
        obtain ⟨m, n, put⟩ := x
        simp only at c0 c1 c2 hxb has
        obtain ⟨L, hL⟩ : ∃ L, (tA s (ys.take k)).1 = L := ⟨_, rfl⟩
        have HG2 : Hid (tA s (ys.take (k + 1)) = (L ++ s.extract A m ++ put, n)) := hide (by rw [HGT2.out]; unfold tS; rw [hL, ← HAE.out])
        rw [hL] at HR hts
        obtain ⟨y0, y1, y2⟩ := cells3_new' wr (.int .i64 (m : Int)) (.int .i64 (n : Int)) (.string put)
        replace y0 := y0 47
        replace y1 := y1 47
        replace y2 := y2 47
        obtain ⟨wb, hwb⟩ : ∃ wb, wr.alloc (.cells #[.int .i64 (m : Int), .int .i64 (n : Int), .string put] 47) = wb := ⟨_, rfl⟩
        have ho1 := HR.out.1
        have hbb : Below W1.heap.size W1 wb := by rw [← hwb]; exact HR.out.2.alloc HR.out.2.size _
        have hob : ByOwn wb W1.heap.size v L := by rw [← hwb]; exact World.ownsRow.alloc ho1 _
        have hsb : wb.heap.size = wr.heap.size + 1 := by rw [← hwb]; simp
        have hlo : ∀ q, v.ownBlock = some q → q ≠ wr.heap.size := fun q hq => by have := (World.ownsRow.lt ho1 q hq).2; omega
        rw [hwb] at y0 y1 y2
        have hes : (s.extract A m).size ≤ 300 := by rw [ByteArray.size_extract]; omega
        have hLb : L.size ≤ 180000 := by omega
        have HBB := hide hbb
        have HOB := hide hob
        have HLO := hide hlo
        have HSB := hide hsb
        replace hwb := hide hwb
        clear HGT2 hL HR ho1 hbb hob hlo hsb hts
        have hAm : A ≤ m := by omega
        have hms : m ≤ s.size := by omega
        have HS0 := hide HBB.out.size
        go_wp2_with (first
          | (at_builtin; (have hb3 := HB3.out); (refine wpList_str rfl _ _ 45 9 rfl W1.heap.size 5 i0 Tryd.underlying45 Tryd.underlying9 hi0 hz0 hz1 hz2 _ _ _ rfl HO3.out put rfl (by rw [ByteArray.size_append]; omega) hb3.size ?_); intro v4 w4 own4 grow4 loc4; (have HR4 : Hid (ByOwn w4 W1.heap.size v4 (tA s (ys.take (k + 1))).1 ∧ Below W1.heap.size W1 w4) := hide ⟨(by rw [HG2.out]; exact ByOwn.app own4), grown_belowB hb3 hb3.size HO3.out grow4⟩); (have t1 := grown_cell grow4 HL3.out HS3.out z1); clear own4 grow4 loc4 z1 z2 hb3)
          | (at_builtin; rw [hwb.out]; (refine wpList_str rfl _ _ 45 9 rfl W1.heap.size 5 i0 Tryd.underlying45 Tryd.underlying9 hi0 hz0 hz1 hz2 _ _ _ rfl HOB.out (s.extract A m) rfl (by omega) HS0.out ?_); intro v3 w3 own3 grow3 loc3; (have HO3 : Hid (ByOwn w3 W1.heap.size v3 (L ++ s.extract A m)) := hide (ByOwn.app own3)); (have HB3 := hide (grown_belowB HBB.out HS0.out HOB.out grow3)); (have z1 := grown_cell grow3 HLO.out (by have := HSB.out; omega) y1); (have z2 := grown_cell grow3 HLO.out (by have := HSB.out; omega) y2); (have HL3 : Hid (∀ q, v3.ownBlock = some q → q ≠ wr.heap.size) := hide (loc_ne loc3 HLO.out (by have h6 := HSB.out; omega))); (have HS3 : Hid (wr.heap.size < w3.heap.size) := hide (by have h5 := grow3.size; have h6 := HSB.out; omega)); clear own3 grow3 loc3 y0 y1 y2 HOB HBB HLO HSB))
        exact ⟨⟨k + 1, n, by omega, by go_num, rfl, by omega, hide (by rw [HG2.out]), _, rfl, HR4⟩, by simp [intOf]; omega⟩
      · obtain hke : k = ys.length := by omega
        obtain ⟨L, hL⟩ : ∃ L, (tA s (ys.take k)).1 = L := ⟨_, rfl⟩
        have HTX2 : Hid (T = L ++ s.extract A s.size) := hide (by rw [HTX.out, ← hL, HAE.out, hke, List.take_of_length_le (Nat.le_refl _)])
        rw [hL] at HR hts
        have HOB := hide HR.out.1
        have HBB := hide HR.out.2
        have hLb : L.size ≤ 180000 := by omega
        have hes : (s.extract A s.size).size ≤ 300 := by rw [ByteArray.size_extract]; omega
        clear HR hL hts HTX
        cases hg : good T.data.toList with
        | true =>
          have HY := hide (HYes.out hg)
          rw [hg] at HGT
          clear HYes HNo hg
          go_wp2_with (first | (at_builtin; (refine wpList_str rfl _ _ 45 9 rfl W1.heap.size 5 i0 Tryd.underlying45 Tryd.underlying9 hi0 hz0 hz1 hz2 _ _ _ rfl HOB.out (s.extract A s.size) rfl (by omega) HBB.out.size ?_); intro v3 w3 own3 grow3 loc3; (have HO3 : Hid (ByOwn w3 W1.heap.size v3 T) := hide (by rw [HTX2.out]; exact ByOwn.app own3)); (have HB3 := hide (HB1.out.trans ((grown_belowB HBB.out HBB.out.size HOB.out grow3).mono HB1.out.size))); (have hcv := ByOwn.conv HO3.out); (have HTT := hide (HT.out.below HB3.out)); clear own3 grow3 loc3 HOB HBB) | (go_at_call 22; refine (HGT.out w3 HTT.out).mono ?_; rintro e w' ⟨rfl, hw⟩; replace hw := hw.symm; subst hw))
          go_wp2
          go_ret3
          exact HY.out _ HB3.out
        | false =>
          have HY := hide (HNo.out hg)
          rw [hg] at HGT
          clear HYes HNo hg
          go_wp2_with (first | (at_builtin; (refine wpList_str rfl _ _ 45 9 rfl W1.heap.size 5 i0 Tryd.underlying45 Tryd.underlying9 hi0 hz0 hz1 hz2 _ _ _ rfl HOB.out (s.extract A s.size) rfl (by omega) HBB.out.size ?_); intro v3 w3 own3 grow3 loc3; (have HO3 : Hid (ByOwn w3 W1.heap.size v3 T) := hide (by rw [HTX2.out]; exact ByOwn.app own3)); (have HB3 := hide (HB1.out.trans ((grown_belowB HBB.out HBB.out.size HOB.out grow3).mono HB1.out.size))); (have hcv := ByOwn.conv HO3.out); (have HTT := hide (HT.out.below HB3.out)); clear own3 grow3 loc3 HOB HBB) | (go_at_call 22; refine (HGT.out w3 HTT.out).mono ?_; rintro e w' ⟨rfl, hw⟩; replace hw := hw.symm; subst hw))
          go_wp2
          go_ret3
          exact HY.out _ HB3.out
  · rw [Bool.not_eq_true] at hok
    have HN := hide (fun w' hb => ra_no (p := p) (s := s) (W := W) (w := w) (w' := w') (by unfold raB; rw [hok]; rfl) hb)
    rw [hok] at H
    replace H := hide H
    clear hok
    go_enter Tryd.func9, Tryd.ntmps9
    go_wp2_with fail
    refine H.out.mono ?_
    rintro e w1 ⟨v, rfl, ho, hb1⟩
    have HN1 := hide (HN.out w1 hb1)
    clear ho hb1
    go_wp2
    go_ret3
    exact HN1.out
end Go.Proofs.YtfiefklhhchebabDoor
