/- The contracts of the drawing of documents: inner, spoilt, doc, bytes. -/
import Derived.Test.YtbmnciejaknonaaDoorDraw1
import Derived.Laws.IdiomStrings
import Derived.Deep.RegionWith
import Derived.Deep.DeepMust
namespace Go.Proofs.YtbmnciejaknonaaDoor
open Go.RowKit

theorem u8_small (v : Int) (h0 : 0 ≤ v) (h1 : v ≤ 255) : IntKind.u8.wrap v = v := by simp [IntKind.wrap, IntKind.bits, IntKind.signed]; omega
theorem i64_small (v : Int) (h0 : -1000000000 ≤ v) (h1 : v ≤ 1000000000) : IntKind.i64.wrap v = v := by rw [IntKind.wrap_i64]; omega
theorem grown_refl (w : World) (r : Option Nat) : w.grownBy w r := ⟨rfl, rfl, rfl, Nat.le_refl _, fun _ _ _ => rfl⟩
theorem hidI {p : Prop} (h : p) : Hid p := h
theorem step_in {M t z E : Nat} (hz : z ≤ 3) (hE : 8 ≤ E) : M + t + 2 + 2 + 2 + z * E ≤ M + (t + 8 * E) := by
  have : z * E ≤ 3 * E := Nat.mul_le_mul_right _ hz
  omega
theorem size_in {a t x z E : Nat} {k : UInt8} (hs : a ≤ t) (hx : x ≤ z * E) (hz : z ≤ 3) (hE : 8 ≤ E) : a + ((⟨#[k]⟩ : ByteArray).size + x + (⟨#[47]⟩ : ByteArray).size) ≤ t + 8 * E := by
  have h1 : z * E ≤ 3 * E := Nat.mul_le_mul_right _ hz
  have h2 : (⟨#[k]⟩ : ByteArray).size = 1 := rfl
  have h3 : (⟨#[47]⟩ : ByteArray).size = 1 := rfl
  omega
theorem left_step {t m E N : Nat} (h : t + m * E = N) (hm : 0 < m) : t + E + (m - 1) * E = N := by
  obtain ⟨k, rfl⟩ : ∃ k, m = k + 1 := ⟨m - 1, by omega⟩
  rw [Nat.add_mul, Nat.one_mul] at h
  simp only [Nat.add_sub_cancel]
  omega
theorem left_le {t m E N : Nat} (h : t + m * E = N) (hm : 0 < m) : t + E ≤ N := by
  obtain ⟨k, rfl⟩ : ∃ k, m = k + 1 := ⟨m - 1, by omega⟩
  rw [Nat.add_mul, Nat.one_mul] at h
  omega

theorem texts_new (w : World) (l : List ByteArray) (T : TypeId) (S : Nat) (h : ∀ s ∈ l, s.size ≤ S) : TextsAt S w.heap.size 0 l.length (w.alloc (.cells (l.map Value.string).toArray T)) where
  at_ := fun j hj => by
    refine ⟨l[j], h _ (List.getElem_mem hj), ?_⟩
    rw [Nat.zero_add, World.cell?_alloc_at _ _ _ _ rfl]
    simp [hj]
theorem CurAt.drew {g : Nat} {C : Value} {M : Nat} {w : World} (h : CurAt g C M w) : CurAt g C M w.drew := ⟨h.c0, h.ex, h.fz⟩
theorem CodeAt.drew {g : Nat} {C : Value} {w : World} (h : CodeAt g C w) : CodeAt g C w.drew := h.grown ⟨rfl, rfl, rfl, Nat.le_refl _, fun _ _ _ => rfl⟩
theorem CodeAt.alloc {g : Nat} {C : Value} {w : World} (h : CodeAt g C w) (o : Obj) : CodeAt g C (w.alloc o) := h.grown (World.grownBy_alloc _ _ _)
/-- A text of one byte made of a row of one. -/
theorem conv_one (W : World) (b : Nat) (v : Int) (cap : Nat) (h0 : 0 ≤ v) (h1 : v ≤ 255) (h : W.cell? ⟨b, 0, none⟩ = some (.int .u8 v)) : (convert 22 9 (.slice (some ⟨b, 0, none⟩) 1 cap)).run Tryd.prog W = .ok (.string ⟨#[UInt8.ofNat v.toNat]⟩) W := by
  refine run_convert_bytes_back W _ _ 5 ⟨b, 0, none⟩ cap [UInt8.ofNat v.toNat] Tryd.underlying22 Tryd.underlying5 Tryd.underlying9 ?_
  intro j hj
  match j, hj with
  | 0, _ =>
    show W.cell? ⟨b, 0 + 0, none⟩ = _
    rw [h]
    have : (UInt8.ofNat v.toNat).toNat = v.toNat := by simp [UInt8.toNat_ofNat']; omega
    simp [this]
    omega
theorem cell_new_kept {g : Nat} {W w3 : World} {v : Value} {T : TypeId} (hg : (W.alloc (.cells #[v] T)).grownBy w3 (some g)) (hne : W.heap.size ≠ g) : w3.cell? ⟨W.heap.size, 0, none⟩ = some v :=
  hg.cell (by rw [World.cell?_alloc_at _ _ _ _ rfl]; rfl) (fun e => hne (by cases e; rfl))
theorem conv_new (W : World) (v : Int) (h0 : 0 ≤ v) (h1 : v ≤ 255) : (convert 22 9 (.slice (some ⟨W.heap.size, 0, none⟩) 1 1)).run Tryd.prog (W.alloc (.cells #[.int .u8 v] 5)) = .ok (.string ⟨#[UInt8.ofNat v.toNat]⟩) (W.alloc (.cells #[.int .u8 v] 5)) :=
  conv_one _ _ v 1 h0 h1 (by rw [World.cell?_alloc_at _ _ _ _ rfl]; rfl)
theorem grown_drew {W : World} {r : Option Nat} : W.grownBy W.drew r := ⟨rfl, rfl, rfl, Nat.le_refl _, fun _ _ _ => rfl⟩
def theTexts : List ByteArray := [⟨#[97]⟩, ⟨#[98]⟩, ⟨#[97, 98]⟩, ⟨#[120]⟩, ⟨#[32]⟩, ⟨#[111, 110, 101]⟩, ⟨#[49]⟩, ⟨#[122, 46]⟩]
theorem theTexts_le : ∀ s ∈ theTexts, s.size ≤ 3 := by decide

set_option maxRecDepth 100000 in
set_option maxHeartbeats 1000000 in
theorem inner_zero (g : Nat) (C : Value) (M n : Nat) (w : World) (hcur : CurAt g C M w) (hco : CodeAt g C w) (hn : n ≤ 60) (hM : M ≤ 100000000) :
    Calls Tryd.prog 111 #[.pointer (some ⟨g, 0, none⟩), .int .i64 n, .int .i64 0] w (TextPost g C (M + n * 8) (n * 8) w) := by
  go_enter Tryd.func111, Tryd.ntmps111
  go_wp2
  go_loopw [1, 7] (fun nv sv wr => ∃ (m t : Nat) (s : ByteArray), m ≤ n ∧ nv = .int .i64 m ∧ sv = .string s ∧ s.size ≤ t ∧ Hid (t + m * 8 = n * 8) ∧ CurAt g C (M + t) wr ∧ w.grownBy wr (some g)) (fun nv _ _ => (intOf nv).toNat)
  case atStart => exact ⟨n, 0, ⟨#[]⟩, Nat.le_refl _, rfl, rfl, Nat.le_refl _, hidI (by omega), hcur, grown_refl _ _⟩
  case round =>
    obtain ⟨m, t, s, hm, rfl, rfl, hs, ht, hc, hg⟩ := hrel
    by_cases h0 : 0 < m
    · have htl : t ≤ 480 := by have := ht.out; omega
      have hco1 := hco.grown hg
      have hgl := hc.lt
      go_wp2_with fail
      refine (of_any g C (M + t) 3 wr.heap.size 0 8 8 _ (hc.alloc _) (hco1.grown (World.grownBy_alloc _ _ _)) (by omega) (by omega) (texts_new wr theTexts 9 3 theTexts_le) (by omega) (by omega) (by omega)).mono ?_
      rintro e w1 ⟨x, rfl, hx, hc1, hg1⟩
      have hg2 := hg.trans ((World.grownBy_alloc wr _ (some g)).trans hg1)
      go_wp2
      go_roundw
      case rel => exact ⟨m - 1, t + 8, s ++ x, by omega, by go_num, rfl, by rw [ByteArray.size_append]; omega, left_step ht.out h0, hc1.mono (by omega), hg2⟩
      case measure => simp [intOf]; omega
    · obtain rfl : m = 0 := by omega
      have e : t = n * 8 := by have := ht.out; omega
      have E : Hid (t = n * 8) := e
      clear e ht
      go_wp2
      go_ret
      exact ⟨s, rfl, by rw [← E.out]; exact hs, by rw [← E.out]; exact hc, hg⟩

set_option maxRecDepth 100000 in
set_option maxHeartbeats 2000000 in
theorem inner_succ (g : Nat) (C : Value) (E B : Nat) (hB : B ≤ 100000000) (d : Int) (hd0 : 0 < d) (hd1 : d ≤ 3) (hE : 8 ≤ E) (hE2 : E ≤ 4096)
    (ih : ∀ (M n : Nat) (w : World), CurAt g C M w → CodeAt g C w → n ≤ 3 → M ≤ B → Calls Tryd.prog 111 #[.pointer (some ⟨g, 0, none⟩), .int .i64 n, .int .i64 (d - 1)] w (TextPost g C (M + n * E) (n * E) w))
    (M n : Nat) (w : World) (hcur : CurAt g C M w) (hco : CodeAt g C w) (hn : n ≤ 60) (hM : M + 2000000 ≤ B) :
    Calls Tryd.prog 111 #[.pointer (some ⟨g, 0, none⟩), .int .i64 n, .int .i64 d] w (TextPost g C (M + n * (8 * E)) (n * (8 * E)) w) := by
  have IH := hidI ih
  clear ih
  go_enter Tryd.func111, Tryd.ntmps111
  go_wp2
  go_loopw [1, 7] (fun nv sv wr => ∃ (m t : Nat) (s : ByteArray), m ≤ n ∧ nv = .int .i64 m ∧ sv = .string s ∧ s.size ≤ t ∧ Hid (t + m * (8 * E) = n * (8 * E)) ∧ CurAt g C (M + t) wr ∧ w.grownBy wr (some g)) (fun nv _ _ => (intOf nv).toNat)
  case atStart => exact ⟨n, 0, ⟨#[]⟩, Nat.le_refl _, rfl, rfl, Nat.le_refl _, hidI (by omega), hcur, grown_refl _ _⟩
  case round =>
    obtain ⟨m, t, s, hm, rfl, rfl, hs, ht, hc, hg⟩ := hrel
    by_cases h0 : 0 < m
    · have htl : t ≤ 60 * 32768 := by
        have h1 := left_le ht.out h0
        have h2 : n * (8 * E) ≤ 60 * 32768 := Nat.mul_le_mul hn (by omega)
        omega
      have hco1 := hco.grown hg
      have hgl := hc.lt
      go_wp2_with fail
      refine (one_any g C (M + t) 3 wr hc hco1 (by omega)).mono ?_
      rintro e w1 ⟨y, rfl, hc1, hg1⟩
      have hco2 := hco1.grown hg1
      have hgg := hg.trans hg1
      clear hc hco1 hg1 hg
      cases y with
      | true =>
        go_wp2_with fail
        have hdw : IntKind.i64.wrap (d - 1) = d - 1 := i64_small _ (by omega) (by omega)
        go_region_with (first
          | (go_at_call 82; have _tk := hc1; go_must (refine (pick_any g C (M + t + 2) 4 _ (by repeat (first | exact hc1 | apply CurAt.drew | apply CurAt.alloc)) (by repeat (first | exact hco2 | apply CodeAt.drew | apply CodeAt.alloc)) (by omega)).mono ?_; rintro e w2 ⟨y, rfl, hy0, hy1, hy2, hc2, hg2⟩; have hco3 := CodeAt.grown (by repeat (first | exact hco2 | apply CodeAt.drew | apply CodeAt.alloc)) hg2; have hy3 := hy2 (by omega); have hgA := (hgg.trans grown_drew).trans hg2; have hl2 := hc2.lt; have hw1 : IntKind.i64.wrap (65 + y) = 65 + y := i64_small _ (by omega) (by omega); have hw2 : IntKind.u8.wrap (65 + y) = 65 + y := u8_small _ (by omega) (by omega); have kc := fun W => conv_new W (65 + y) (by omega) (by omega); clear hy2 hc1 _tk hgg hg2))
          | (go_at_call 82; refine (pick_any g C (M + t + 2 + 2) 4 _ (by repeat (first | exact hc2 | apply CurAt.drew | apply CurAt.alloc)) (by repeat (first | exact hco3 | apply CodeAt.drew | apply CodeAt.alloc)) (by omega)).mono ?_; rintro e w3 ⟨z, rfl, hz0, hz1, hz2, hc3, hg3⟩; have hco4 := CodeAt.grown (by repeat (first | exact hco3 | apply CodeAt.drew | apply CodeAt.alloc)) hg3; have hz3 := hz2 (by omega); have hl3 := hc3.lt; have hgB := World.grownBy.trans (by first | exact hgA | exact hgA.trans (World.grownBy_alloc _ _ _)) hg3; (try (have hk3 := cell_new_kept hg3 (by omega); have kc3 := conv_one w3 _ _ 1 (by omega) (by omega) hk3)); obtain ⟨z', hz'⟩ : ∃ z' : Nat, z = z' := ⟨z.toNat, by omega⟩; subst hz'; clear hz2 hc2 hgA hg3)
          | (go_at_call 111; refine (IH.out (M + t + 2 + 2 + 2) z' _ (by repeat (first | exact hc3 | apply CurAt.drew | apply CurAt.alloc)) (by repeat (first | exact hco4 | apply CodeAt.drew | apply CodeAt.alloc)) (by omega) (by omega)).mono ?_; rintro e w4 ⟨x, rfl, hx, hc4, hg4⟩; have hxb : x.size ≤ 12288 := Nat.le_trans hx (Nat.le_trans (Nat.mul_le_mul (show z' ≤ 3 by omega) hE2) (by omega)); have hgC := World.grownBy.trans (by first | exact hgB | exact hgB.trans (World.grownBy_alloc _ _ _)) hg4; (try (have hk4 := hg4.cell hk3 (by simp; omega); have kc4 := conv_one w4 _ _ 1 (by omega) (by omega) hk4)); (try (have hk5 := cell_new_kept hg4 (by omega); have kc5 := conv_one w4 _ _ 1 (by omega) (by omega) hk5)); clear hc3 hgB hg4))
        all_goals
          clear kc
          (try clear kc3)
          (try clear kc4)
          (try clear kc5)
          (try clear hk3)
          (try clear hk4)
          (try clear hk5)
          go_wp2
          go_roundw
          case rel => exact ⟨m - 1, t + 8 * E, _, by omega, by go_num, rfl, by simp only [ByteArray.size_append]; exact size_in hs hx (by omega) hE, left_step ht.out h0, CurAt.mono (by repeat (first | exact hc4 | apply CurAt.drew | apply CurAt.alloc)) (step_in (by omega) hE), by first | exact hgC | exact hgC.trans (World.grownBy_alloc _ _ _)⟩
          case measure => simp [intOf]; omega
      | false =>
        go_wp2_with fail
        refine (of_any g C (M + t + 2) 3 w1.heap.size 0 8 8 _ (hc1.alloc _) (hco2.grown (World.grownBy_alloc _ _ _)) (by omega) (by have := hc1.lt; omega) (texts_new w1 theTexts 9 3 theTexts_le) (by omega) (by omega) (by omega)).mono ?_
        rintro e w2 ⟨x, rfl, hx, hc2, hg2⟩
        have hg3 := hgg.trans ((World.grownBy_alloc w1 _ (some g)).trans hg2)
        go_wp2
        go_roundw
        case rel => exact ⟨m - 1, t + 8 * E, s ++ x, by omega, by go_num, rfl, by rw [ByteArray.size_append]; omega, left_step ht.out h0, hc2.mono (by omega), hg3⟩
        case measure => simp [intOf]; omega
    · obtain rfl : m = 0 := by omega
      have e : t = n * (8 * E) := by have := ht.out; omega
      have HE : Hid (t = n * (8 * E)) := e
      clear e ht
      go_wp2
      go_ret
      exact ⟨s, rfl, by rw [← HE.out]; exact hs, by rw [← HE.out]; exact hc, hg⟩

theorem inner_three (g : Nat) (C : Value) (M n : Nat) (w : World) (hcur : CurAt g C M w) (hco : CodeAt g C w) (hn : n ≤ 60) (hM : M ≤ 90000000) :
    Calls Tryd.prog 111 #[.pointer (some ⟨g, 0, none⟩), .int .i64 n, .int .i64 3] w (TextPost g C (M + n * 4096) (n * 4096) w) := by
  have i0 : ∀ (M n : Nat) (w : World), CurAt g C M w → CodeAt g C w → n ≤ 3 → M ≤ 100000000 → Calls Tryd.prog 111 #[.pointer (some ⟨g, 0, none⟩), .int .i64 n, .int .i64 (1 - 1)] w (TextPost g C (M + n * 8) (n * 8) w) :=
    fun M n w h1 h2 h3 h4 => inner_zero g C M n w h1 h2 (by omega) h4
  have i1 : ∀ (M n : Nat) (w : World), CurAt g C M w → CodeAt g C w → n ≤ 3 → M ≤ 98000000 → Calls Tryd.prog 111 #[.pointer (some ⟨g, 0, none⟩), .int .i64 n, .int .i64 (2 - 1)] w (TextPost g C (M + n * 64) (n * 64) w) :=
    fun M n w h1 h2 h3 h4 => inner_succ g C 8 100000000 (by omega) 1 (by omega) (by omega) (by omega) (by omega) i0 M n w h1 h2 (by omega) (by omega)
  have i2 : ∀ (M n : Nat) (w : World), CurAt g C M w → CodeAt g C w → n ≤ 3 → M ≤ 96000000 → Calls Tryd.prog 111 #[.pointer (some ⟨g, 0, none⟩), .int .i64 n, .int .i64 (3 - 1)] w (TextPost g C (M + n * 512) (n * 512) w) :=
    fun M n w h1 h2 h3 h4 => inner_succ g C 64 98000000 (by omega) 2 (by omega) (by omega) (by omega) (by omega) i1 M n w h1 h2 (by omega) (by omega)
  exact inner_succ g C 512 96000000 (by omega) 3 (by omega) (by omega) (by omega) (by omega) i2 M n w hcur hco hn (by omega)

end Go.Proofs.YtbmnciejaknonaaDoor
