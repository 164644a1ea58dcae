/- The contracts of the drawing of documents, on: spoilt, bytes, doc. -/
import Derived.Test.YtbmnciejaknonaaDoorDraw2
import Derived.Lib.Strings
namespace Go.Proofs.YtbmnciejaknonaaDoor
open Go.RowKit

theorem CurAt.drewN {g : Nat} {C : Value} {M : Nat} {w : World} (h : CurAt g C M w) (n : Nat) : CurAt g C M (w.drewN n) := ⟨h.c0, h.ex, h.fz⟩
theorem grown_drewN {W : World} {r : Option Nat} (n : Nat) : W.grownBy (W.drewN n) r := ⟨rfl, rfl, rfl, Nat.le_refl _, fun _ _ _ => rfl⟩

set_option maxRecDepth 100000 in
set_option maxHeartbeats 2000000 in
theorem spoilt_any (g : Nat) (C : Value) (M : Nat) (t v : ByteArray) (w : World) (hcur : CurAt g C M w) (hco : CodeAt g C w) (hM : M ≤ 900000000) (ht : t.size ≤ 500000) (hv : 0 < v.size) (hv2 : v.size ≤ 100) :
    Calls Tryd.prog 94 #[.pointer (some ⟨g, 0, none⟩), .string t, .string v] w (TextPost g C (M + 20) (t.size + 3) w) := by
  go_enter Tryd.func94, Tryd.ntmps94
  go_wp2_with fail
  refine (pick_any g C M 3 w hcur hco (by omega)).mono ?_
  rintro e w1 ⟨y, rfl, hy0, hy1, hy2, hc1, hg1⟩
  have hy3 := hy2 (by omega)
  clear hy2 hcur
  obtain ⟨n, rfl⟩ : ∃ n : Nat, y = n := ⟨y.toNat, by omega⟩
  go_wp2
  go_loopw [1, 7] (fun tv nv wr => ∃ (m : Nat) (u : ByteArray), m ≤ n ∧ nv = .int .i64 m ∧ tv = .string u ∧ u.size + m ≤ t.size + n ∧ CurAt g C (M + 2 + (n - m) * 6) wr ∧ w.grownBy wr (some g)) (fun _ nv _ => (intOf nv).toNat)
  case atStart => exact ⟨n, t, Nat.le_refl _, rfl, rfl, Nat.le_refl _, by simpa using hc1, hg1⟩
  case round =>
    obtain ⟨m, u, hm, rfl, rfl, hu, hc, hg⟩ := hrel
    by_cases h0 : 0 < m ∧ 0 < u.size
    · obtain ⟨h0, hu0⟩ := h0
      have hcor : CodeAt g C wr := hco.grown hg
      go_wp2_with fail
      refine (pick_any g C _ u.size wr hc hcor (by omega)).mono ?_
      rintro e w2 ⟨i, rfl, hi0, hi1, hi2, hc2, hg2⟩
      have hi3 := hi2 (by omega)
      obtain ⟨k, rfl⟩ : ∃ k : Nat, i = k := ⟨i.toNat, by omega⟩
      have hk : k < u.size := by omega
      have hco2 := hcor.grown hg2
      have hgA := hg.trans hg2
      clear hi2 hc hcor hg hg2
      go_wp2_with fail
      refine (pick_any g C _ v.size w2 hc2 hco2 (by omega)).mono ?_
      rintro e w3 ⟨j, rfl, hj0, hj1, hj2, hc3, hg3⟩
      have hj3 := hj2 (by omega)
      obtain ⟨q, rfl⟩ : ∃ q : Nat, j = q := ⟨j.toNat, by omega⟩
      have hq : q < v.size := by omega
      have hco3 := hco2.grown hg3
      have hgB := hgA.trans hg3
      have hcv := conv_new w3 (v[q].toNat : Int) (by omega) (by have := UInt8.toNat_lt v[q]; omega)
      obtain ⟨z, hz⟩ : ∃ z : ByteArray, z = ⟨#[UInt8.ofNat (v[q].toNat : Int).toNat]⟩ := ⟨_, rfl⟩
      have hz1 : z.size = 1 := by rw [hz]; rfl
      rw [← hz] at hcv
      clear hj2 hc2 hco2 hg3 hgA hz
      go_wp2_with fail
      refine (pick_any g C _ 3 _ (hc3.alloc _) (hco3.alloc _) (by omega)).mono ?_
      rintro e w4 ⟨x, rfl, hx0, hx1, hx2, hc4, hg4⟩
      have hx3 := hx2 (by omega)
      have hgC := (hgB.trans (World.grownBy_alloc w3 _ (some g))).trans hg4
      clear hx2 hc3 hco3 hg4 hgB hcv
      have hz2 : z.size ≤ 1 := by omega
      clear hz1
      go_wp2
      all_goals
        go_quiet (fail)
        go_wp2
        go_roundw
        case rel => exact ⟨m - 1, _, by omega, by go_num, rfl, by simp only [ByteArray.size_append, ByteArray.size_extract]; omega, CurAt.drewN (hc4.mono (by omega)) _, hgC.trans (grown_drewN _)⟩
        case measure => simp [intOf]; omega
    · by_cases hm0 : m = 0
      · subst hm0
        go_wp2
        go_ret
        exact ⟨u, rfl, by omega, hc.mono (by omega), hg⟩
      · have hus : (u.size : Int) ≤ 0 := by omega
        go_wp2
        go_ret
        exact ⟨u, rfl, by omega, hc.mono (by omega), hg⟩


/-- What the drawing of bytes leaves. -/
def BytesPost (g : Nat) (C : Value) (M : Nat) (S : Nat) (w : World) (e : Ending) (w' : World) : Prop :=
  ∃ (v : Value) (l : List UInt8), e = .returned v ∧ l.length ≤ S ∧ w'.ownsRow w.heap.size 5 1 v l.length (l.map fun c => Value.int .u8 (c.toNat : Int)) ∧ CurAt g C M w' ∧ w.grownBy w' (some g)

theorem Tryd.info5' : (Tryd.prog.info? 5).map (fun i => (i.zero, i.size, i.bytes)) = some (some (.int .u8 0), 1, 1) := by kernel_rfl
theorem u8_of (y : Int) (h0 : 0 ≤ y) (h1 : y ≤ 255) : ∃ c : UInt8, y = (c.toNat : Int) := ⟨UInt8.ofNat y.toNat, by simp [UInt8.toNat_ofNat']; omega⟩
theorem own_far {w w' : World} {g B : Nat} {v : Value} {n : Nat} {xs : List Value} (h : w.ownsRow B 5 1 v n xs) (hB : g < B) (hg : w.grownBy w' (some g)) : w'.ownsRow B 5 1 v n xs := by
  refine h.kept hg ?_
  rcases h.2 with ⟨rfl, _⟩ | ⟨q, cap, cur, rfl, hq, _⟩
  · exact .inl rfl
  · refine .inr ?_
    simp [Value.ownBlock]; omega
theorem cur_far {g B M : Nat} {C v : Value} {w w' : World} {n : Nat} {xs : List Value} (h : CurAt g C M w) (ho : w.ownsRow B 5 1 v n xs) (hB : g < B) (hg : w.grownBy w' v.ownBlock) : CurAt g C M w' := by
  have hne : ∀ a : Addr, a.block = g → some a.block ≠ v.ownBlock := by
    intro a ha
    rcases ho.2 with ⟨rfl, _⟩ | ⟨q, cap, cur, rfl, hq, _⟩
    · simp [Value.ownBlock]
    · simp [Value.ownBlock]; omega
  refine { c0 := hg.cell h.c0 (hne _ rfl), ex := ?_, fz := fun j => ?_ }
  · obtain ⟨i, x, a, b, c, d⟩ := h.ex
    exact ⟨i, x, hg.cell a (hne _ rfl), hg.cell b (hne _ rfl), c, d⟩
  · rw [World.frozen?_of_block (w := w) (hg.block g h.lt (hne ⟨g, 0, none⟩ rfl))]; exact h.fz j
theorem grown_own {w wr w' : World} {g : Nat} {v : Value} {n : Nat} {xs : List Value} (hg : w.grownBy wr (some g)) (ho : wr.ownsRow w.heap.size 5 1 v n xs) (h : wr.grownBy w' v.ownBlock) : w.grownBy w' (some g) := by
  refine ⟨h.os.trans hg.os, h.tape.trans hg.tape, h.output.trans hg.output, Nat.le_trans hg.size h.size, fun k hk hne => ?_⟩
  have h1 := hg.block k hk hne
  have h2 := h.block k (by have := hg.size; omega) (by
    rcases ho.2 with ⟨rfl, _⟩ | ⟨q, cap, cur, rfl, hq, _⟩
    · simp [Value.ownBlock]
    · simp [Value.ownBlock]; omega)
  exact h2.trans h1

set_option maxRecDepth 100000 in
set_option maxHeartbeats 2000000 in
theorem bytes_any (g : Nat) (C : Value) (M : Nat) (w : World) (hcur : CurAt g C M w) (hco : CodeAt g C w) (hM : M ≤ 900000000) :
    Calls Tryd.prog 110 #[.pointer (some ⟨g, 0, none⟩), .int .i64 9] w (BytesPost g C (M + 20) 10 w) := by
  obtain ⟨i0, hi, hz0, hz1, hz2⟩ := info_parts Tryd.info5'
  have hgw := hcur.lt
  go_enter Tryd.func110, Tryd.ntmps110
  go_wp2_with fail
  refine (pick_any g C M 10 w hcur hco (by omega)).mono ?_
  rintro e w1 ⟨y, rfl, hy0, hy1, hy2, hc1, hg1⟩
  have hy3 := hy2 (by omega)
  clear hy2 hcur
  obtain ⟨n, rfl⟩ : ∃ n : Nat, y = n := ⟨y.toNat, by omega⟩
  go_wp2
  go_loopw [5, 6] (fun bv nv wr => ∃ (m : Nat) (l : List UInt8), m ≤ n ∧ nv = .int .i64 m ∧ l.length + m = n ∧ wr.ownsRow w.heap.size 5 1 bv l.length (l.map fun c => Value.int .u8 (c.toNat : Int)) ∧ CurAt g C (M + 2 + (n - m)) wr ∧ w.grownBy wr (some g)) (fun _ nv _ => (intOf nv).toNat)
  case atStart => exact ⟨n, [], Nat.le_refl _, rfl, by simp, World.ownsRow_nil _ _ _ _, by simpa using hc1, hg1⟩
  case round =>
    obtain ⟨m, l, hm, rfl, hl, hown, hc, hg⟩ := hrel
    by_cases h0 : 0 < m
    · go_wp2_with fail
      refine (next_any g C _ wr hc (hco.grown hg) (by omega)).mono ?_
      rintro e w2 ⟨x, rfl, hx0, hx1, hc2, hg2⟩
      obtain ⟨c, rfl⟩ := u8_of x hx0 hx1
      have hown2 := own_far hown (by omega) hg2
      have hgA := hg.trans hg2
      have hsz := hgA.size
      have hw8 : IntKind.u8.wrap (c.toNat : Int) = c.toNat := u8_small _ hx0 hx1
      clear hown hc hg hg2
      go_wp2_with (at_builtin; refine wpList_append_own _ rfl _ _ 22 rfl w.heap.size 5 i0 (.int .u8 0) 1 1 Tryd.underlying22 hi hz0 hz1 hz2 rfl (by decide) _ _ _ rfl (hown2.alloc _) ⟨w2.heap.size, 0, none⟩ 1 1 [.int .u8 (c.toNat : Int)] rfl rfl ?c1 ?c2 ?c3 ?c4 ?c5 ?_)
      case c1 => exact cell_one_new _ _ _
      case c2 => intro u hu; simp at hu; subst hu; rfl
      case c3 => unfold maxLen; omega
      case c4 => omega
      case c5 => simp; omega
      intro v' w3 hown3 hgrow _
      have A1 := cur_far (hc2.alloc (.cells #[.int .u8 (c.toNat : Int)] 5)) (hown2.alloc _) hgw hgrow
      have A2 := grown_own (hgA.trans (World.grownBy_alloc w2 (.cells #[.int .u8 (c.toNat : Int)] 5) (some g))) (hown2.alloc _) hgrow
      have A3 : w3.ownsRow w.heap.size 5 1 v' (l ++ [c]).length ((l ++ [c]).map fun c => Value.int .u8 (c.toNat : Int)) := by simpa using hown3
      clear hown3 hgrow hown2 hc2 hgA
      go_wp2
      go_roundw
      case rel => exact ⟨m - 1, l ++ [c], by omega, by go_num, by simp; omega, A3, A1.mono (by omega), A2⟩
      case measure => simp [intOf]; omega
    · obtain rfl : m = 0 := by omega
      go_wp2
      go_ret
      exact ⟨_, l, rfl, by omega, hown, hc.mono (by omega), hg⟩

end Go.Proofs.YtbmnciejaknonaaDoor
