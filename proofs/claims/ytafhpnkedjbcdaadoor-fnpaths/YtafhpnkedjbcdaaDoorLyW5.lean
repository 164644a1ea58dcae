/- The contract of the layout's write: a method of an interface, as a step of a region that draws its order. -/
import Derived.Test.YtafhpnkedjbcdaaDoorLyW4
import Derived.Test.YtafhpnkedjbcdaaDoorAppStr
import Derived.Deep.Cut
import Derived.Deep.CutRange
namespace Go.Proofs.YtafhpnkedjbcdaaDoor
open Go.RowKit
open Doc1

theorem meth_elem (s : ByteArray) (w : World) : (method 278 157 (.agg #[.string s]) "loop.example/g00253/impl.head").run Tryd.prog w = .ok (160, .agg #[.string s]) w := by kernel_rfl

set_option maxHeartbeats 400000 in
theorem head_elem (s : ByteArray) (w : World) :
    Calls Tryd.prog 160 #[.agg #[.string s]] w fun e w' => e = .returned (.string s) ∧ Below w.heap.size w w' := by
  go_enter Tryd.func160, Tryd.ntmps160
  go_wp2
  go_ret
  first
    | exact ⟨rfl, (Below.refl _ _).alloc (Nat.le_refl _) _⟩
    | exact ⟨rfl, Below.refl _ _⟩

theorem step_elem {w : World} {ops : Array Oper} {o : Oper} {a : Act} {K : Act → World → Prop} {Q : Exit → Act → World → Prop} {E : Prop} (hgd : o.guard = none) (x : Operand)
    (ho : o.op = .call { callee := .invoke x "loop.example/g00253/impl.head", args := #[], argTypes := #[] }) (s : ByteArray) (hx : a.eval x = .iface 157 (.agg #[.string s])) (h : ∀ w', Below w.heap.size w w' → K (a.put o.dst (.string s)) w') :
    if Region.wanted o (yielded ops a.tmps) = true then Oper.wp Tryd.prog o a w K Q else E := by
  have hw : Region.wanted o (yielded ops a.tmps) = true := by simp [Region.wanted, hgd]
  rw [if_pos hw]
  have hm := meth_elem s
  unfold Oper.wp execOp
  simp only [ho, resolve, invoke, hx, Sem.run_bind, Sem.run_pure, Result.andThen_ok, List.map_toArray, List.map_nil]
  simp [go_sem, hm]
  refine (head_elem s w).mono ?_
  rintro e w' ⟨rfl, hR⟩
  exact h w' hR

theorem meth_run (s : ByteArray) (w : World) : (method 278 159 (.agg #[.string s]) "loop.example/g00253/impl.head").run Tryd.prog w = .ok (161, .agg #[.string s]) w := by kernel_rfl

set_option maxHeartbeats 400000 in
theorem head_run (s : ByteArray) (w : World) :
    Calls Tryd.prog 161 #[.agg #[.string s]] w fun e w' => e = .returned (.string s) ∧ Below w.heap.size w w' := by
  go_enter Tryd.func161, Tryd.ntmps161
  go_wp2
  go_ret
  first
    | exact ⟨rfl, (Below.refl _ _).alloc (Nat.le_refl _) _⟩
    | exact ⟨rfl, Below.refl _ _⟩

theorem step_run {w : World} {ops : Array Oper} {o : Oper} {a : Act} {K : Act → World → Prop} {Q : Exit → Act → World → Prop} {E : Prop} (hgd : o.guard = none) (x : Operand)
    (ho : o.op = .call { callee := .invoke x "loop.example/g00253/impl.head", args := #[], argTypes := #[] }) (s : ByteArray) (hx : a.eval x = .iface 159 (.agg #[.string s])) (h : ∀ w', Below w.heap.size w w' → K (a.put o.dst (.string s)) w') :
    if Region.wanted o (yielded ops a.tmps) = true then Oper.wp Tryd.prog o a w K Q else E := by
  have hw : Region.wanted o (yielded ops a.tmps) = true := by simp [Region.wanted, hgd]
  rw [if_pos hw]
  have hm := meth_run s
  unfold Oper.wp execOp
  simp only [ho, resolve, invoke, hx, Sem.run_bind, Sem.run_pure, Result.andThen_ok, List.map_toArray, List.map_nil]
  simp [go_sem, hm]
  refine (head_run s w).mono ?_
  rintro e w' ⟨rfl, hR⟩
  exact h w' hR

theorem meth_whole (w : World) : (method 278 155 (.agg #[]) "loop.example/g00253/impl.head").run Tryd.prog w = .ok (159, .agg #[]) w := by kernel_rfl

set_option maxHeartbeats 400000 in
theorem head_whole (w : World) :
    Calls Tryd.prog 159 #[.agg #[]] w fun e w' => e = .returned (.string ⟨#[]⟩) ∧ Below w.heap.size w w' := by
  go_enter Tryd.func159, Tryd.ntmps159
  go_wp2
  go_ret
  first
    | exact ⟨rfl, (Below.refl _ _).alloc (Nat.le_refl _) _⟩
    | exact ⟨rfl, Below.refl _ _⟩

theorem step_whole {w : World} {ops : Array Oper} {o : Oper} {a : Act} {K : Act → World → Prop} {Q : Exit → Act → World → Prop} {E : Prop} (hgd : o.guard = none) (x : Operand)
    (ho : o.op = .call { callee := .invoke x "loop.example/g00253/impl.head", args := #[], argTypes := #[] }) (hx : a.eval x = .iface 155 (.agg #[])) (h : ∀ w', Below w.heap.size w w' → K (a.put o.dst (.string ⟨#[]⟩)) w') :
    if Region.wanted o (yielded ops a.tmps) = true then Oper.wp Tryd.prog o a w K Q else E := by
  have hw : Region.wanted o (yielded ops a.tmps) = true := by simp [Region.wanted, hgd]
  rw [if_pos hw]
  have hm := meth_whole
  unfold Oper.wp execOp
  simp only [ho, resolve, invoke, hx, Sem.run_bind, Sem.run_pure, Result.andThen_ok, List.map_toArray, List.map_nil]
  simp [go_sem, hm]
  refine (head_whole w).mono ?_
  rintro e w' ⟨rfl, hR⟩
  exact h w' hR

theorem xz_not1 {t : List UInt8} {f f' o p : List Nat} (i : Nat) (hne : i ≠ 1) : Xz ⟨t, f', o, p⟩ i = Xz ⟨t, f, o, p⟩ i := by
  unfold Xz
  by_cases h0 : i = 0
  · rw [if_pos h0, if_pos h0]
  · rw [if_neg h0, if_neg h0, if_neg hne, if_neg hne]
theorem xz_not2 {t : List UInt8} {f o o' p : List Nat} (i : Nat) (hne : i ≠ 2) : Xz ⟨t, f, o', p⟩ i = Xz ⟨t, f, o, p⟩ i := by
  unfold Xz
  by_cases h0 : i = 0
  · rw [if_pos h0, if_pos h0]
  · rw [if_neg h0, if_neg h0]
    by_cases h1 : i = 1
    · rw [if_pos h1, if_pos h1]
    · rw [if_neg h1, if_neg h1, if_neg hne, if_neg hne]
theorem own_sl {w : World} {B n sz : Nat} {e : TypeId} {v : Value} {xs : List Value} (h : w.ownsRow B e sz v n xs) : ∃ a cap, v = .slice a n cap := by
  rcases h.2 with ⟨rfl, h0⟩ | ⟨g, cap, cur, hv, _⟩
  · exact ⟨none, 0, by rw [h0]⟩
  · exact ⟨_, cap, hv⟩
theorem byt_app (a b : List UInt8) : byt (a ++ b) = byt a ++ byt b := by simp [byt]
theorem size_list (s : ByteArray) : s.data.toList.length = s.size := by simp

set_option maxRecDepth 100000 in
set_option maxHeartbeats 4000000 in
theorem write_elem (B g : Nat) (V : Nat → Value) (z : LS) (s : ByteArray) (w : World) (h : Ly B g V z w) (hB : B ≤ w.heap.size) (hl : z.text.length ≤ 4000000) (hf : z.fr.length ≤ 4000000) (ht : z.to.length ≤ 4000000) (hs : s.size ≤ 4000000) :
    Calls Tryd.prog 135 #[.pointer (some ⟨g, 0, none⟩), .iface 157 (.agg #[.string s])] w fun e w' => e = .returned (.tuple #[]) ∧ (∃ V', Ly B g V' (z.write s.data.toList) w') ∧ Below B w w' := by
  obtain ⟨i0, hi0, hz0, hz1, hz2⟩ := info_parts Tryd.info3
  obtain ⟨u0, hu0, hz0', hz1', hz2'⟩ := info_parts Tryd.infoU8
  have k0 := h.c 0 (by omega)
  have k1 := h.c 1 (by omega)
  obtain ⟨a0, c0, hV0, hq1, hq2⟩ := h.shape 0 (by omega)
  rw [hV0, X0, byt_len] at k0
  have kf := h.fz 1
  have lg := h.lt
  have own1 := h.own 1 (by omega)
  have hE1 : Et 1 = 3 := rfl
  rw [X1, ints_len, hE1] at own1
  have ne1 := h.ag 1 (by omega)
  obtain ⟨v1, hv1⟩ : ∃ v1, v1 = V 1 := ⟨_, rfl⟩
  have H := hide h
  have Hv1 := hide hv1
  rw [← hv1] at k1 own1 ne1
  clear h hv1
  go_enter Tryd.func135, Tryd.ntmps135
  go_wp2_with fail
  go_cut [4] from 4 to 17 (fun _ wx => ∃ V', Ly B g V' ⟨z.text, z.fr ++ [z.text.length], z.to, z.op⟩ wx ∧ Below B w wx)
  case first =>
    go_region_law
      ((refine step_append_lies _ (by rfl) _ _ _ (by rfl) B 3 i0 _ 1 8 Tryd.underlying47 hi0 hz0 hz1 hz2 rfl (by omega) v1 z.fr.length (ints (natI z.fr)) (by rfl) ((own1.alloc _).drew)
          ⟨w.heap.size, 0, none⟩ 1 1 [.int .i64 (z.text.length : Int)] (by rfl) (by rfl) (World.news_of_block (cs := #[.int .i64 (z.text.length : Int)]) (t := 3) (fr := (0, 0)) (heap_alloc_new w _)) (by simp [Value.oneCell'])
          (by omega) (by unfold maxLen; omega) (by omega) (by simp; omega) (w.heap.size + 1) (by simp) ?_; intro gg cap w2 hown1 hgrow hat hlt; have hfz := (hgrow.frozen_far ⟨g, 1, none⟩ (by simp; omega) (Ne.symm ne1)).trans (fz_al w _ _ lg kf); have hcz := (hgrow.cell_far ⟨g, 1, none⟩ (by simp; omega) (Ne.symm ne1)).trans (cl_al w _ _ k1)))
    all_goals
      rw [Hv1.out] at hgrow hat
      have hap := ly_app (z' := ⟨z.text, z.fr ++ [z.text.length], z.to, z.op⟩) H.out (j := 1) (by omega) (by omega) (X1 z) rfl (fun i _ hne => xz_not1 i hne) hown1 hgrow hat hB
      go_wp2_with fail
      go_meet
      case rel => exact ⟨_, hap.1, hap.2⟩
  case rest =>
    obtain ⟨V1, L1, hb1⟩ := hcut
    clear k0 k1 own1 ne1 hV0 kf lg H Hv1
    have k0 := L1.c 0 (by omega)
    have kf := L1.fz 0
    have lg := L1.lt
    have ne0 := L1.ag 0 (by omega)
    have own0 := L1.own 0 (by omega)
    have hE0 : Et 0 = 5 := rfl
    rw [X0, byt_len, hE0] at own0
    have hBc : B ≤ wc.heap.size := Nat.le_trans hB hb1.size
    obtain ⟨v0, hv0⟩ : ∃ v0, v0 = V1 0 := ⟨_, rfl⟩
    have H1 := hide L1
    have Hv0 := hide hv0
    rw [← hv0] at k0 own0 ne0
    clear L1 hv0
    have C0 : ∀ w', Below wc.heap.size wc w' → w'.cell? ⟨g, 0, none⟩ = some v0 := fun w' h => (World.cell?_of_block (h.block g lg)).trans k0
    go_wp2_with fail
    go_cut [18] from 18 to 27 (fun _ wx => ∃ V', Ly B g V' ⟨z.text ++ s.data.toList, z.fr ++ [z.text.length], z.to, z.op⟩ wx ∧ Below B w wx)
    case first =>
      go_region_law
        (first
          | ((refine step_elem (by rfl) _ (by rfl) s (by rfl) ?_; intro w5 hb5; have c5 := C0 w5 ((Below.refl _ _).drew.trans hb5)))
          | ((refine step_str (by rfl) _ _ _ _ (by rfl) B 5 u0 Tryd.underlying22 Tryd.underlying9 hu0 hz0' hz1' hz2' v0 z.text.length (byt z.text) (by rfl) (own_below own0 ((Below.refl _ _).drew.trans hb5)) s (by rfl) (by first | omega | (show z.text.length + 0 ≤ _; omega)) (Nat.le_trans hBc hb5.size) ?_; intro v6 w6 ho6 hg6 hat6; obtain ⟨a6, c6, hv6⟩ := own_sl ho6; subst hv6; have cz := (hg6.cell_far ⟨g, 0, none⟩ (Nat.lt_of_lt_of_le lg hb5.size) (Ne.symm ne0)).trans c5; have fz6 := (hg6.frozen_far ⟨g, 0, none⟩ (Nat.lt_of_lt_of_le lg hb5.size) (Ne.symm ne0)).trans ((World.frozen?_of_block (hb5.block g lg)).trans kf))))
      all_goals
        rw [Hv0.out] at hg6 hat6
        have hblk : ∀ k, k < wc.heap.size → some k ≠ (V1 0).ownBlock → w6.heap[k]? = wc.heap[k]? := fun k hk hne => (hg6.block k (Nat.lt_of_lt_of_le hk hb5.size) hne).trans (hb5.block k hk)
        have hp := H1.out.put (z' := ⟨z.text ++ s.data.toList, z.fr ++ [z.text.length], z.to, z.op⟩) 0 (by omega) _ hblk (by rw [X0]; show w6.ownsRow B 5 1 _ (byt (z.text ++ s.data.toList)).length (byt (z.text ++ s.data.toList)); rw [byt_len, byt_app, List.length_append, size_list]; exact ho6) (fun i _ hi => by unfold Xz; rw [if_neg hi, if_neg hi]) (hat6.imp id (fun e x hx => Nat.le_trans hb5.size (e x hx)))
        have hbb : Below B w (w6.setCell ⟨g, 0, none⟩ (.slice a6 (z.text.length + s.size) c6)) := (((hb1.trans ((Below.refl _ _).drew.trans (hb5.mono hBc))).grown hg6 (Nat.le_trans hBc hb5.size) (fun k hk => ((H1.out.own 0 (by omega)).lt k hk).1)).setCell H1.out.le _)
        go_wp2_with fail
        go_meet
        case rel => exact ⟨_, hp, hbb⟩
    case rest =>
      obtain ⟨V2, L2, hb2⟩ := hcut
      clear k0 kf lg ne0 own0 H1 Hv0 C0 hBc hb1
      obtain ⟨N, hN⟩ : ∃ N, N = (z.text ++ s.data.toList).length := ⟨_, rfl⟩
      have hNl : N ≤ 8000000 := by rw [hN, List.length_append, size_list]; omega
      have k0 := L2.c 0 (by omega)
      have k2 := L2.c 2 (by omega)
      obtain ⟨a0', c0', hV0', hq1', hq2'⟩ := L2.shape 0 (by omega)
      rw [X0, byt_len] at hV0'
      rw [hV0', ← hN] at k0
      have kf := L2.fz 2
      have lg := L2.lt
      have own2 := L2.own 2 (by omega)
      have hE2 : Et 2 = 3 := rfl
      rw [X2, ints_len, hE2] at own2
      have ne2 := L2.ag 2 (by omega)
      have hBc : B ≤ wc.heap.size := Nat.le_trans hB hb2.size
      obtain ⟨v2, hv2⟩ : ∃ v2, v2 = V2 2 := ⟨_, rfl⟩
      have H2 := hide L2
      have Hv2 := hide hv2
      have HN := hide hN
      rw [← hv2] at k2 own2 ne2
      clear L2 hv2 hV0' hN
      go_wp2_with fail
      go_region_law
        ((refine step_append_lies _ (by rfl) _ _ _ (by rfl) B 3 i0 _ 1 8 Tryd.underlying47 hi0 hz0 hz1 hz2 rfl (by omega) v2 z.to.length (ints (natI z.to)) (by rfl) ((own2.alloc _).drew)
            ⟨wc.heap.size, 0, none⟩ 1 1 [.int .i64 (N : Int)] (by rfl) (by rfl) (World.news_of_block (cs := #[.int .i64 (N : Int)]) (t := 3) (fr := (0, 0)) (heap_alloc_new wc _)) (by simp [Value.oneCell'])
            (by omega) (by unfold maxLen; omega) (by omega) (by simp; omega) (wc.heap.size + 1) (by simp) ?_; intro gg cap w2 hown1 hgrow hat hlt; have hfz := (hgrow.frozen_far ⟨g, 2, none⟩ (by simp; omega) (Ne.symm ne2)).trans (fz_al wc _ _ lg kf); have hcz := (hgrow.cell_far ⟨g, 2, none⟩ (by simp; omega) (Ne.symm ne2)).trans (cl_al wc _ _ k2)))
      all_goals
        rw [Hv2.out] at hgrow hat
        have hap := ly_app (z' := z.write s.data.toList) H2.out (j := 2) (l := z.to) (x := N) (by omega) (by omega) rfl (by rw [X2]; show ints (natI (z.to ++ [z.text.length + s.data.toList.length])) = _; rw [HN.out, List.length_append]) (fun i _ hne => xz_not2 i hne) hown1 hgrow hat hBc
        go_wp2
        go_end0
        exact ⟨rfl, ⟨_, hap.1⟩, hb2.trans hap.2⟩
end Go.Proofs.YtafhpnkedjbcdaaDoor
