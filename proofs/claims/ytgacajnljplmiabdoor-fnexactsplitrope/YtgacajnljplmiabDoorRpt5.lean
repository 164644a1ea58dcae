/- The walk of the model's l12First. -/
import Derived.Test.YtgacajnljplmiabDoorRpt4
set_option linter.unusedVariables false
namespace Go.Proofs.YtgacajnljplmiabDoor
open Go.RowKit
open Doc1

theorem gpc_eq (s : ByteArray) : gpc s = (decide ((1 : Int) ≤ (s.size : Int) ∧ (s.size : Int) ≤ 8) && allOk s.data.toList) := by
  unfold gpc good
  by_cases h : (1 : Int) ≤ (s.size : Int) ∧ (s.size : Int) ≤ 8
  · rw [decide_eq_true h, decide_eq_true (show 0 < s.size by omega), decide_eq_true (show s.size ≤ 8 by omega), decide_eq_true (show s.data.toList.length ≤ 300 by rw [← szB]; omega)]
    simp
  · rw [decide_eq_false h]
    by_cases h0 : 0 < s.size
    · rw [decide_eq_false (show ¬ s.size ≤ 8 by omega)]; simp
    · rw [decide_eq_false h0]; simp

def FsPost (l : List Bg) (k : Nat) (w : World) (e : Ending) (w' : World) : Prop := e = .returned (.int .i64 (frs l k)) ∧ Below w.heap.size w w'

set_option maxRecDepth 100000 in
set_option maxHeartbeats 8000000 in
theorem l12First_any (l : List Bg) (g cap : Nat) (hl : l.length ≤ 200) (hcl : l.length ≤ cap) (hcm : cap ≤ 9223372036854775807) (hx : ∀ i (hi : i < l.length), l[i].text.size ≤ 1048576) :
    ∀ (k : Nat) (w : World), k < l.length → CLs w g (encBo l) → g < w.heap.size → Calls Tryd.prog 96 #[.slice (some ⟨g, 0, none⟩) l.length cap, .int .i64 (k : Int)] w (FsPost l k w) := by
  intro k
  induction k using Nat.strongRecOn with
  | ind k ih =>
    intro w hk hc hg
    obtain ⟨b0, b1, b2, b3, b4⟩ := hc.bgat k hk
    have HB : Hid (l[k]? = some l[k]) := hide (List.getElem?_eq_getElem hk)
    have htx := hx k hk
    have HC := hide hc
    have HX := hide hx
    obtain ⟨b, hb⟩ : ∃ b, l[k] = b := ⟨_, rfl⟩
    rw [hb] at b0 b1 b2 b3 b4 HB htx
    have HIH := hide ih
    unfold FsPost
    obtain ⟨R, hR⟩ : ∃ R, frs l k = R := ⟨_, rfl⟩
    have HRN : Hid ((∀ f t, ¬ SG l f (k + 1) t) → R = -1) := hide (fun c => by rw [← hR]; exact frs_none c)
    have HRS : Hid (∀ f t, SG l f (k + 1) t → R = (f : Int)) := hide (fun f t c => by rw [← hR]; exact frs_some c)
    rw [hR]
    have hbb : ∀ o : Obj, Below w.heap.size w (w.alloc o) := fun o => (Below.refl _ _).alloc (Nat.le_refl _) o
    have HBB := hide hbb
    clear hc hx hb ih hR hbb
    by_cases hA : b.left = -1 ∧ b.right = -1
    · have e1 : (b.left == -1) = true := by rw [hA.1]; rfl
      have e2 : (b.right == -1) = true := by rw [hA.2]; rfl
      have LI := hide (fun w => l1In_any (b.text.size : Int) 1 8 w)
      have LT := hide (fun w => l1Text_any b.text w (by omega))
      have hgp := gpc_eq b.text
      have HSH : Hid (∀ f t, SG l f (k + 1) t → gpc b.text = true ∧ b.size = (b.text.size : Int) ∧ b.deep = 0) := hide (fun f t c => by
        rcases c.shape HB.out with ⟨-, -, -, -, h1, h2, h3⟩ | ⟨h1, -⟩
        · exact ⟨h1, h2, h3⟩
        · rw [hA.1] at h1; omega)
      obtain ⟨q1, hq1⟩ : ∃ q, decide ((1 : Int) ≤ (b.text.size : Int) ∧ (b.text.size : Int) ≤ 8) = q := ⟨_, rfl⟩
      obtain ⟨q2, hq2⟩ : ∃ q, allOk b.text.data.toList = q := ⟨_, rfl⟩
      rw [hq1, hq2] at hgp
      rw [hq1] at LI
      rw [hq2] at LT
      have HG := hide hgp
      have HAA := hide hA
      clear hq1 hq2 hgp hA
      by_cases hok : (q1 = true ∧ q2 = true) ∧ b.size = (b.text.size : Int) ∧ b.deep = 0
      · obtain ⟨⟨rfl, rfl⟩, hz, hd⟩ := hok
        have e3 : (b.size != (b.text.size : Int)) = false := by rw [hz]; simp
        have e4 : (b.deep != 0) = false := by rw [hd]; rfl
        have hRk : R = (k : Int) := HRS.out k (.pc b.text) (.pc (by rw [HB.out, Option.some.injEq]; obtain ⟨q, q'⟩ := HAA.out; cases b; simp_all) HG.out)
        clear hz hd
        go_enter Tryd.func96, Tryd.ntmps96
        go_wp2_with fail
        refine (LI.out _).mono ?_
        rintro e w1 ⟨rfl, hw⟩
        replace hw := hw.symm
        subst hw
        go_wp2_with fail
        refine (LT.out _).mono ?_
        rintro e w1 ⟨rfl, hw⟩
        replace hw := hw.symm
        subst hw
        go_wp2
        go_ret
        exact ⟨by rw [hRk] <;> rfl, HBB.out _⟩
      · have hRk : R = -1 := HRN.out (fun f t c => hok (by
          obtain ⟨h1, h2, h3⟩ := HSH.out f t c
          rw [HG.out, Bool.and_eq_true] at h1
          exact ⟨h1, h2, h3⟩))
        have HRk := hide hRk
        clear hRk
        cases q1 with
        | false =>
          clear hok
          go_enter Tryd.func96, Tryd.ntmps96
          go_wp2_with fail
          refine (LI.out _).mono ?_
          rintro e w1 ⟨rfl, hw⟩
          replace hw := hw.symm
          subst hw
          go_wp2
          go_ret
          exact ⟨by rw [HRk.out] <;> rfl, HBB.out _⟩
        | true =>
          cases q2 with
          | false =>
            clear hok
            go_enter Tryd.func96, Tryd.ntmps96
            go_wp2_with fail
            refine (LI.out _).mono ?_
            rintro e w1 ⟨rfl, hw⟩
            replace hw := hw.symm
            subst hw
            go_wp2_with fail
            refine (LT.out _).mono ?_
            rintro e w1 ⟨rfl, hw⟩
            replace hw := hw.symm
            subst hw
            go_wp2
            go_ret
            exact ⟨by rw [HRk.out] <;> rfl, HBB.out _⟩
          | true =>
            have hor : ((b.size != (b.text.size : Int)) = true) ∨ ((b.size != (b.text.size : Int)) = false ∧ (b.deep != 0) = true) := by
              by_cases c : b.size = (b.text.size : Int)
              · right
                refine ⟨by rw [c]; simp, ?_⟩
                rw [bne_iff_ne]
                exact fun d => hok ⟨⟨rfl, rfl⟩, c, d⟩
              · left; rw [bne_iff_ne]; exact c
            clear hok
            rcases hor with e3 | ⟨e3, e4⟩
            all_goals
              go_enter Tryd.func96, Tryd.ntmps96
              go_wp2_with fail
              refine (LI.out _).mono ?_
              rintro e w1 ⟨rfl, hw⟩
              replace hw := hw.symm
              subst hw
              go_wp2_with fail
              refine (LT.out _).mono ?_
              rintro e w1 ⟨rfl, hw⟩
              replace hw := hw.symm
              subst hw
              go_wp2
              go_ret
              exact ⟨by rw [HRk.out] <;> rfl, HBB.out _⟩
    · have hgd : ((b.left == -1) = false) ∨ ((b.left == -1) = true ∧ (b.right == -1) = false) := by
        by_cases c : b.left = -1
        · right
          refine ⟨by rw [c]; rfl, ?_⟩
          rw [beq_eq_false_iff_ne]
          exact fun d => hA ⟨c, d⟩
        · left; rw [beq_eq_false_iff_ne]; exact c
      have HSH : Hid (∀ f t, SG l f (k + 1) t → b.text = eT ∧ b.right = (k : Int) - 1 ∧ 2 ≤ k ∧ ∃ m x y, t = .jn x y ∧ SG l f m x ∧ SG l m k y ∧ b.left = (m : Int) - 1 ∧ 1 ≤ m ∧ m < k ∧ b.size = (x.sz : Int) + (y.sz : Int) ∧ b.deep = (max (x.dp : Int) (y.dp : Int)) + 1) := hide (fun f t c => by
        rcases c.shape HB.out with ⟨h1, h2, -⟩ | ⟨-, h⟩
        · exact absurd ⟨h1, h2⟩ hA
        · exact h)
      have ewk : IntKind.i64.wrap ((k : Int) - 1) = (k : Int) - 1 := by rw [IntKind.wrap_i64]; omega
      clear hA
      by_cases hok : b.text.size = 0 ∧ b.right = (k : Int) - 1 ∧ 2 ≤ k
      · obtain ⟨h0, hr, hk2⟩ := hok
        have he : b.text.toList.isEmpty = true := by rw [Lib.toList_data, List.isEmpty_iff_length_eq_zero, ← szB]; exact h0
        have e1 : (b.right != (k : Int) - 1) = false := by rw [hr]; simp
        have e2 : decide ((k : Int) < 2) = false := by rw [decide_eq_false_iff_not]; omega
        obtain ⟨j, hj⟩ : ∃ j, k = j + 1 := ⟨k - 1, by omega⟩
        obtain ⟨wx, hwx⟩ : ∃ wx, wx = w.alloc (.cells #[.int .i64 b.left, .int .i64 b.right, .string b.text, .int .i64 b.size, .int .i64 b.deep] 65) := ⟨_, rfl⟩
        have hbx : Below w.heap.size w wx := by rw [hwx]; exact HBB.out _
        have hsx : wx.heap.size = w.heap.size + 1 := by rw [hwx]; simp
        have hgx : wx.heap[w.heap.size]? = some (.cells #[.int .i64 b.left, .int .i64 b.right, .string b.text, .int .i64 b.size, .int .i64 b.deep] 65) := by rw [hwx]; exact heap_alloc_new w _
        have C1 := hide (HIH.out j (by omega) wx (by omega) (HC.out.later hbx hg) (by omega))
        have hj1 : (k : Int) - 1 = (j : Int) := by omega
        rw [hj1] at e1
        replace ewk : IntKind.i64.wrap ((k : Int) - 1) = (j : Int) := by rw [IntKind.wrap_i64]; omega
        have hrj : b.right = (j : Int) := by omega
        have HR0 := hide hrj
        have HKJ := hide hj
        have HBX := hide hbx
        have HGX := hide hgx
        have HSX := hide hsx
        have HTX : Hid (b.text = eT) := hide (Doc1.ba_eq (by
          have : b.text.data.toList = [] := List.eq_nil_of_length_eq_zero (by rw [← szB]; exact h0)
          rw [this]; rfl))
        unfold FsPost at C1
        rw [hrj] at e1 b1 hgd hwx HGX
        have e1' : ((j : Int) != (j : Int)) = false := by simp
        clear h0 hr hj hj1 hbx hsx hgx hrj e1
        have hjl : j < l.length := by have := HKJ.out; omega
        rcases frs_or l j with ⟨mid, y, hy, hmid⟩ | ⟨hno, hmid⟩
        · rw [hmid] at C1
          have HY := hide hy
          have hyl := hy.lt
          have hsz := gd_sz hyl.2.2
          by_cases hm : 1 ≤ mid ∧ b.left = (mid : Int) - 1
          · obtain ⟨i, hi⟩ : ∃ i, mid = i + 1 := ⟨mid - 1, by omega⟩
            subst hi
            have hbl : b.left = (i : Int) := by omega
            have hil : i < l.length := by omega
            have e3 : decide (((i + 1 : Nat) : Int) < 1) = false := by rw [decide_eq_false_iff_not]; omega
            have ewm : IntKind.i64.wrap (((i + 1 : Nat) : Int) - 1) = (i : Int) := by rw [IntKind.wrap_i64]; omega
            have e4 : ((i : Int) != (i : Int)) = false := by simp
            obtain ⟨ry, hry, s2e, d2e⟩ := hy.root
            rw [Nat.add_sub_cancel, List.getElem?_eq_getElem hjl] at hry
            have hry2 : l[j] = ry := Option.some.inj hry
            obtain ⟨rx, hrx⟩ : ∃ rx, l[i] = rx := ⟨_, rfl⟩
            have HRX : Hid (∀ f x, SG l f (i + 1) x → rx.size = (x.sz : Int) ∧ rx.deep = (x.dp : Int) ∧ x.sz ≤ 1600 ∧ x.dp ≤ 200) := hide (fun f x c => by
              obtain ⟨r, hr, h1, h2⟩ := c.root
              rw [Nat.add_sub_cancel, List.getElem?_eq_getElem hil] at hr
              have : rx = r := by rw [← hrx]; exact Option.some.inj hr
              rw [this]
              have q := c.lt
              have q2 := gd_sz q.2.2
              have q3 := Lm.dp_lt x
              exact ⟨h1, h2, by omega, by omega⟩)
            have ydp := Lm.dp_lt y
            have C2 := hide (fun w' (hb : Below w.heap.size w w') => HIH.out i (by have := HKJ.out; omega) w' hil (HC.out.later hb hg) (Nat.lt_of_lt_of_le hg hb.size))
            have HKC := hide (fun w' (hb : Below w.heap.size w w') => (And.intro ((HC.out.later hb hg).bgat i hil) ((HC.out.later hb hg).bgat j hjl)))
            rw [hrx, hry2, s2e, d2e] at HKC
            obtain ⟨M, hM⟩ : ∃ M : Int, M = max rx.deep (y.dp : Int) := ⟨_, rfl⟩
            have HRE : Hid (b.size = IntKind.i64.wrap (rx.size + (y.sz : Int)) ∧ b.deep = IntKind.i64.wrap (M + 1) → R = frs l i) := hide (fun ⟨c1, c2⟩ => by
              rcases frs_or l i with ⟨f, x, hx, hfx⟩ | ⟨hnx, hfx⟩
              · rw [hfx]
                obtain ⟨r1, r2, r3, r4⟩ := HRX.out f x hx
                refine HRS.out f (.jn x y) ?_
                rw [HKJ.out]
                refine .jn hx (by rw [← HKJ.out]; exact HKJ.out ▸ HY.out) ?_
                rw [← HKJ.out, HB.out, Option.some.injEq]
                have w1 : IntKind.i64.wrap (rx.size + (y.sz : Int)) = (x.sz : Int) + (y.sz : Int) := by rw [r1, IntKind.wrap_i64]; omega
                have w2 : IntKind.i64.wrap (M + 1) = max (x.dp : Int) (y.dp : Int) + 1 := by rw [hM, r2, IntKind.wrap_i64]; omega
                have b1 := HR0.out
                have b2 := HTX.out
                rw [w1] at c1
                rw [w2] at c2
                cases b
                simp only at *
                subst c1 c2 b1 b2 hbl
                congr 1
                · omega
                · have := HKJ.out; omega
                · omega
              · rw [hfx]
                refine HRN.out (fun f t c => ?_)
                obtain ⟨-, -, -, m, x, y', -, h1, h2, h3, -⟩ := HSH.out f t c
                have : m = i + 1 := by omega
                exact hnx f x (this ▸ h1))
            have HRF : Hid (¬ (b.size = IntKind.i64.wrap (rx.size + (y.sz : Int)) ∧ b.deep = IntKind.i64.wrap (M + 1)) → R = -1) := hide (fun hc => HRN.out (fun f t c => hc (by
              obtain ⟨-, -, -, m, x, y', -, h1, h2, h3, -, -, h4, h5⟩ := HSH.out f t c
              have hmi : m = i + 1 := by omega
              subst hmi
              rw [HKJ.out] at h2
              obtain ⟨-, rfl⟩ := SG.uniq h2 HY.out
              obtain ⟨r1, r2, r3, r4⟩ := HRX.out f x h1
              have w1 : IntKind.i64.wrap (rx.size + (y'.sz : Int)) = (x.sz : Int) + (y'.sz : Int) := by rw [r1, IntKind.wrap_i64]; omega
              have w2 : IntKind.i64.wrap (M + 1) = max (x.dp : Int) (y'.dp : Int) + 1 := by rw [hM, r2, IntKind.wrap_i64]; omega
              rw [w1, w2]
              exact ⟨h4, h5⟩)))
            have hbl2 := hbl
            rw [hbl] at b0 hgd hwx HGX
            have hdd : (decide (rx.deep < (y.dp : Int)) = true ∧ M = (y.dp : Int)) ∨ (decide (rx.deep < (y.dp : Int)) = false ∧ M = rx.deep) := by
              by_cases c : rx.deep < (y.dp : Int)
              · exact .inl ⟨decide_eq_true c, by omega⟩
              · exact .inr ⟨decide_eq_false c, by omega⟩
            obtain ⟨W1, hW1⟩ : ∃ W, IntKind.i64.wrap (rx.size + (y.sz : Int)) = W := ⟨_, rfl⟩
            obtain ⟨W2, hW2⟩ : ∃ W, IntKind.i64.wrap (M + 1) = W := ⟨_, rfl⟩
            have hww : ((b.size != W1) = true ∧ R = -1) ∨ ((b.size != W1) = false ∧ (b.deep != W2) = true ∧ R = -1) ∨ ((b.size != W1) = false ∧ (b.deep != W2) = false ∧ R = frs l i) := by
              by_cases c1 : b.size = W1
              · by_cases c2 : b.deep = W2
                · exact .inr (.inr ⟨by rw [c1]; simp, by rw [c2]; simp, HRE.out ⟨by rw [hW1]; exact c1, by rw [hW2]; exact c2⟩⟩)
                · exact .inr (.inl ⟨by rw [c1]; simp, by rw [bne_iff_ne]; exact c2, HRF.out (fun c => c2 (by rw [← hW2]; exact c.2))⟩)
              · exact .inl ⟨by rw [bne_iff_ne]; exact c1, HRF.out (fun c => c1 (by rw [← hW1]; exact c.1))⟩
            unfold FsPost at C2
            have hW1' := hW1
            have hMw : (decide (rx.deep < (y.dp : Int)) = true ∧ IntKind.i64.wrap ((y.dp : Int) + 1) = W2) ∨ (decide (rx.deep < (y.dp : Int)) = false ∧ IntKind.i64.wrap (rx.deep + 1) = W2) := by
              rcases hdd with ⟨d1, d2⟩ | ⟨d1, d2⟩
              · exact .inl ⟨d1, by rw [← hW2, d2]⟩
              · exact .inr ⟨d1, by rw [← hW2, d2]⟩
            have HBZ := hide (And.intro hil hjl)
            clear hry hry2 s2e d2e hrx HRX HRE HRF hM hbl hbl2 hm HSH HRN HRS HY hmid hy hyl hsz ydp HC HIH hW1' hW2 hdd
            have g1 : ((i : Int) == -1) = false := by rw [beq_eq_false_iff_ne]; omega
            clear hgd
            rcases hMw with ⟨d1, d2⟩ | ⟨d1, d2⟩
            all_goals
              rcases hww with ⟨h1, h2⟩ | ⟨h1, h3, h2⟩ | ⟨h1, h3, h2⟩
              · have HRk := hide h2
                clear h2
                go_enter Tryd.func96, Tryd.ntmps96
                go_wp2_with fail
                rw [← hwx]
                clear hwx
                refine C1.out.mono ?_
                rintro e w2 ⟨rfl, hb2⟩
                have HB2 : Hid (Below w.heap.size w w2) := hide (HBX.out.trans (hb2.mono HBX.out.size))
                have hgx2 : w2.heap[w.heap.size]? = _ := (hb2.block _ (by have := HSX.out; omega)).trans HGX.out
                have x0 : w2.cell? ⟨w.heap.size, 0, none⟩ = some (.int .i64 (i : Int)) := by rw [cell_of_row _ _ 0 _ _ (0, 0) hgx2]; rfl
                have x1 : w2.cell? ⟨w.heap.size, 1, none⟩ = some (.int .i64 (j : Int)) := by rw [cell_of_row _ _ 1 _ _ (0, 0) hgx2]; rfl
                have x3 : w2.cell? ⟨w.heap.size, 3, none⟩ = some (.int .i64 b.size) := by rw [cell_of_row _ _ 3 _ _ (0, 0) hgx2]; rfl
                have x4 : w2.cell? ⟨w.heap.size, 4, none⟩ = some (.int .i64 b.deep) := by rw [cell_of_row _ _ 4 _ _ (0, 0) hgx2]; rfl
                obtain ⟨⟨-, -, -, u3, u4⟩, -, -, -, v3, v4⟩ := HKC.out w2 HB2.out
                clear hb2 hgx2
                go_wp2
                go_quiet (fail)
                go_wp2
                go_ret
                exact ⟨by rw [HRk.out] <;> rfl, HB2.out.trans ⟨rfl, rfl, rfl, Nat.le_refl _, fun _ _ => rfl⟩⟩
              · have HRk := hide h2
                clear h2
                go_enter Tryd.func96, Tryd.ntmps96
                go_wp2_with fail
                rw [← hwx]
                clear hwx
                refine C1.out.mono ?_
                rintro e w2 ⟨rfl, hb2⟩
                have HB2 : Hid (Below w.heap.size w w2) := hide (HBX.out.trans (hb2.mono HBX.out.size))
                have hgx2 : w2.heap[w.heap.size]? = _ := (hb2.block _ (by have := HSX.out; omega)).trans HGX.out
                have x0 : w2.cell? ⟨w.heap.size, 0, none⟩ = some (.int .i64 (i : Int)) := by rw [cell_of_row _ _ 0 _ _ (0, 0) hgx2]; rfl
                have x1 : w2.cell? ⟨w.heap.size, 1, none⟩ = some (.int .i64 (j : Int)) := by rw [cell_of_row _ _ 1 _ _ (0, 0) hgx2]; rfl
                have x3 : w2.cell? ⟨w.heap.size, 3, none⟩ = some (.int .i64 b.size) := by rw [cell_of_row _ _ 3 _ _ (0, 0) hgx2]; rfl
                have x4 : w2.cell? ⟨w.heap.size, 4, none⟩ = some (.int .i64 b.deep) := by rw [cell_of_row _ _ 4 _ _ (0, 0) hgx2]; rfl
                obtain ⟨⟨-, -, -, u3, u4⟩, -, -, -, v3, v4⟩ := HKC.out w2 HB2.out
                clear hb2 hgx2
                go_wp2
                go_quiet (fail)
                go_wp2
                go_ret
                exact ⟨by rw [HRk.out] <;> rfl, HB2.out.trans ⟨rfl, rfl, rfl, Nat.le_refl _, fun _ _ => rfl⟩⟩
              · have HRk := hide h2
                clear h2
                go_enter Tryd.func96, Tryd.ntmps96
                go_wp2_with fail
                rw [← hwx]
                clear hwx
                refine C1.out.mono ?_
                rintro e w2 ⟨rfl, hb2⟩
                have HB2 : Hid (Below w.heap.size w w2) := hide (HBX.out.trans (hb2.mono HBX.out.size))
                have hgx2 : w2.heap[w.heap.size]? = _ := (hb2.block _ (by have := HSX.out; omega)).trans HGX.out
                have x0 : w2.cell? ⟨w.heap.size, 0, none⟩ = some (.int .i64 (i : Int)) := by rw [cell_of_row _ _ 0 _ _ (0, 0) hgx2]; rfl
                have x1 : w2.cell? ⟨w.heap.size, 1, none⟩ = some (.int .i64 (j : Int)) := by rw [cell_of_row _ _ 1 _ _ (0, 0) hgx2]; rfl
                have x3 : w2.cell? ⟨w.heap.size, 3, none⟩ = some (.int .i64 b.size) := by rw [cell_of_row _ _ 3 _ _ (0, 0) hgx2]; rfl
                have x4 : w2.cell? ⟨w.heap.size, 4, none⟩ = some (.int .i64 b.deep) := by rw [cell_of_row _ _ 4 _ _ (0, 0) hgx2]; rfl
                obtain ⟨⟨-, -, -, u3, u4⟩, -, -, -, v3, v4⟩ := HKC.out w2 HB2.out
                clear hb2 hgx2
                go_wp2
                go_quiet (fail)
                have hb5 : Below w.heap.size w (w2.drewN nq) := HB2.out.trans ⟨rfl, rfl, rfl, Nat.le_refl _, fun _ _ => rfl⟩
                have C3 := hide (C2.out _ hb5)
                have HB5 := hide hb5
                clear hb5
                go_wp2_with fail
                refine C3.out.mono ?_
                rintro e w6 ⟨rfl, hb6⟩
                have HB6 := hide (HB5.out.trans (hb6.mono HB5.out.size))
                clear hb6
                go_wp2
                go_ret
                exact ⟨by rw [HRk.out] <;> rfl, HB6.out⟩
          · have hRk : R = -1 := HRN.out (fun f t c => hm (by
              obtain ⟨-, -, -, m, x, y', -, h1, h2, h3, h4, -⟩ := HSH.out f t c
              rw [HKJ.out] at h2
              obtain ⟨rfl, -⟩ := SG.uniq h2 HY.out
              exact ⟨h4, h3⟩))
            have HRk := hide hRk
            have ewm : IntKind.i64.wrap ((mid : Int) - 1) = (mid : Int) - 1 := by rw [IntKind.wrap_i64]; omega
            have hor : decide ((mid : Int) < 1) = true ∨ (decide ((mid : Int) < 1) = false ∧ (b.left != (mid : Int) - 1) = true) := by
              by_cases c : (mid : Int) < 1
              · exact .inl (decide_eq_true c)
              · exact .inr ⟨decide_eq_false c, by rw [bne_iff_ne]; exact fun d => hm ⟨by omega, d⟩⟩
            clear hRk hm HSH hmid hy hyl hsz
            rcases hgd with g1 | ⟨g1, g2⟩
            all_goals
              rcases hor with h1 | ⟨h1, h2⟩
              all_goals
                go_enter Tryd.func96, Tryd.ntmps96
                go_wp2_with fail
                rw [← hwx]
                clear hwx
                refine C1.out.mono ?_
                rintro e w2 ⟨rfl, hb2⟩
                have HB2 : Hid (Below w.heap.size w w2) := hide (HBX.out.trans (hb2.mono HBX.out.size))
                have hgx2 : w2.heap[w.heap.size]? = _ := (hb2.block _ (by have := HSX.out; omega)).trans HGX.out
                have x0 := cell_of_row _ _ 0 _ _ (0, 0) hgx2
                simp only [List.getElem?_toArray, List.getElem?_cons_zero] at x0
                clear hb2 hgx2
                go_wp2
                go_ret
                exact ⟨by rw [HRk.out] <;> rfl, HB2.out⟩
        · rw [hmid] at C1
          have hRk : R = -1 := HRN.out (fun f t c => by
            obtain ⟨-, -, -, m, x, y', -, h1, h2, -⟩ := HSH.out f t c
            rw [HKJ.out] at h2
            exact hno _ _ h2)
          have HRk := hide hRk
          clear hRk HSH hmid hno
          rcases hgd with g1 | ⟨g1, g2⟩
          all_goals
            go_enter Tryd.func96, Tryd.ntmps96
            go_wp2_with fail
            rw [← hwx]
            clear hwx
            refine C1.out.mono ?_
            rintro e w2 ⟨rfl, hb2⟩
            have HB2 : Hid (Below w.heap.size w w2) := hide (HBX.out.trans (hb2.mono HBX.out.size))
            clear hb2
            go_wp2
            go_ret
            exact ⟨by rw [HRk.out] <;> rfl, HB2.out⟩
      · have hRk : R = -1 := HRN.out (fun f t c => hok (by
          obtain ⟨h1, h2, h3, -⟩ := HSH.out f t c
          exact ⟨by rw [h1]; rfl, h2, h3⟩))
        have HRk := hide hRk
        have hor : b.text.toList.isEmpty = false ∨ (b.text.toList.isEmpty = true ∧ (b.right != (k : Int) - 1) = true) ∨ (b.text.toList.isEmpty = true ∧ (b.right != (k : Int) - 1) = false ∧ decide ((k : Int) < 2) = true) := by
          by_cases c0 : b.text.size = 0
          · have he : b.text.toList.isEmpty = true := by rw [Lib.toList_data, List.isEmpty_iff_length_eq_zero, ← szB]; exact c0
            by_cases c1 : b.right = (k : Int) - 1
            · exact .inr (.inr ⟨he, by rw [c1]; simp, by rw [decide_eq_true_iff]; have : ¬ 2 ≤ k := fun d => hok ⟨c0, c1, d⟩; omega⟩)
            · exact .inr (.inl ⟨he, by rw [bne_iff_ne]; exact c1⟩)
          · left; rw [Lib.toList_data, List.isEmpty_eq_false_iff, ← List.length_pos_iff, ← szB]; omega
        clear hRk hok HSH
        rcases hgd with g1 | ⟨g1, g2⟩
        all_goals
          rcases hor with h1 | ⟨h1, h2⟩ | ⟨h1, h2, h3⟩
          all_goals
            go_enter Tryd.func96, Tryd.ntmps96
            go_wp2
            go_ret
            exact ⟨by rw [HRk.out] <;> rfl, HBB.out _⟩
end Go.Proofs.YtgacajnljplmiabDoor
