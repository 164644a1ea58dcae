/- The contracts of the drawing cursor: next, pick, one, of. The contracts of the drawing of documents: inner, spoilt, doc, bytes. The contracts of the drawing of documents, on: spoilt, bytes, doc. -/
import Derived.Test.YtkjioadmebkaoaaDoorWalks1
import Derived.Deep.QuietTactic
import Derived.BigQuiet
import Derived.Maps.AppendAt
import Derived.Laws.IdiomStrings
import Derived.Deep.RegionWith
import Derived.Deep.DeepMust
import Derived.Lib.Strings
namespace Go.Proofs.YtkjioadmebkaoaaDoor
open Go.RowKit

/-- The cursor lies in block g; it has made at most M steps; C is the code that it reads. -/
structure CurAt (g : Nat) (C : Value) (M : Nat) (w : World) : Prop where
  c0 : w.cell? ⟨g, 0, none⟩ = some C
  ex : ∃ (i : Int) (x : Int), w.cell? ⟨g, 1, none⟩ = some (.int .i64 i) ∧ w.cell? ⟨g, 2, none⟩ = some (.int .u64 x) ∧ 0 ≤ i ∧ i ≤ M ∧ 0 ≤ x
  fz : ∀ j, w.frozen? ⟨g, j, none⟩ = false

/-- The code can be read: a slice of bytes. -/
inductive CodeAt (g : Nat) : Value → World → Prop
  | nil (w : World) (a : Option Addr) (cap : Nat) : CodeAt g (.slice a 0 cap) w
  | row (w : World) (b o len cap : Nat) (hb : b ≠ g) (hl : len ≤ cap) (h : ∀ j, j < len → ∃ x : Int, 0 ≤ x ∧ x ≤ 255 ∧ w.cell? ⟨b, o + j, none⟩ = some (.int .u8 x)) : CodeAt g (.slice (some ⟨b, o, none⟩) len cap) w

theorem CodeAt.grown {g : Nat} {C : Value} {w w' : World} (h : CodeAt g C w) (hg : w.grownBy w' (some g)) : CodeAt g C w' := by
  cases h with
  | nil _ a cap => exact .nil w' a cap
  | row _ b o len cap hb hl h =>
    refine .row w' b o len cap hb hl fun j hj => ?_
    obtain ⟨x, h0, h1, hx⟩ := h j hj
    exact ⟨x, h0, h1, hg.cell hx (fun e => hb (by cases e; rfl))⟩
theorem CurAt.mono {g : Nat} {C : Value} {M N : Nat} {w : World} (h : CurAt g C M w) (hl : M ≤ N) : CurAt g C N w where
  c0 := h.c0
  ex := by obtain ⟨i, x, a, b, c, d⟩ := h.ex; exact ⟨i, x, a, b, c, by omega⟩
  fz := h.fz
theorem CurAt.alloc {g : Nat} {C : Value} {M : Nat} {w : World} (h : CurAt g C M w) (o : Obj) : CurAt g C M (w.alloc o) := by
  have hg : w.grownBy (w.alloc o) none := World.grownBy_alloc w o none
  have hlt : g < w.heap.size := by
    have := h.c0
    unfold World.cell? at this
    apply Classical.byContradiction
    intro hn
    rw [Array.getElem?_eq_none (by simpa using hn)] at this
    simp at this
  refine { c0 := hg.cell h.c0 (by simp), ex := ?_, fz := fun j => ?_ }
  · obtain ⟨i, x, a, b, c, d⟩ := h.ex
    exact ⟨i, x, hg.cell a (by simp), hg.cell b (by simp), c, d⟩
  · rw [World.frozen?_of_block (w := w) (hg.block g hlt (by simp))]; exact h.fz j
theorem CurAt.lt {g : Nat} {C : Value} {M : Nat} {w : World} (h : CurAt g C M w) : g < w.heap.size := by
  have := h.c0
  unfold World.cell? at this
  apply Classical.byContradiction
  intro hn
  rw [Array.getElem?_eq_none (by simpa using hn)] at this
  simp at this

theorem cur_step {g : Nat} {C : Value} {M : Nat} {w w1 : World} {i z : Int} (b : Nat) (h : CurAt g C M w) (hi0 : 0 ≤ i) (hi : i ≤ M) (hz : 0 ≤ z) (e : w1.heap = w.heap) (e1 : w1.os = w.os) (e2 : w1.tape = w.tape) (e3 : w1.output = w.output) :
    CurAt g C (M + 1) (((w1.setCell ⟨g, 1, none⟩ (.int .i64 (i + 1))).setCell ⟨g, 2, none⟩ (.int .u64 z)).drewN b) ∧
      w.grownBy (((w1.setCell ⟨g, 1, none⟩ (.int .i64 (i + 1))).setCell ⟨g, 2, none⟩ (.int .u64 z)).drewN b) (some g) := by
  obtain ⟨i0, x0, h1, h2, _, _⟩ := h.ex
  have k : ∀ a, w1.cell? a = w.cell? a := fun a => by simp [World.cell?, e]
  have kf : ∀ a, w1.frozen? a = w.frozen? a := fun a => by simp [World.frozen?, e]
  have g1 : (w1.setCell ⟨g, 1, none⟩ (.int .i64 (i + 1))).cell? ⟨g, 1, none⟩ = some (.int .i64 (i + 1)) := World.cell?_setCell_same _ _ _ (by rw [k]; exact h1)
  have g2 : (w1.setCell ⟨g, 1, none⟩ (.int .i64 (i + 1))).cell? ⟨g, 2, none⟩ = some (.int .u64 x0) := by rw [World.cell?_setCell_other _ _ _ _ (by simp), k]; exact h2
  refine ⟨{ c0 := ?_, ex := ⟨i + 1, z, ?_, ?_, by omega, by omega, hz⟩, fz := fun j => ?_ }, ⟨e1, e2, e3, ?_, fun j hj hne => ?_⟩⟩
  · show ((w1.setCell _ _).setCell _ _).cell? _ = _
    rw [World.cell?_setCell_other _ _ _ _ (by simp), World.cell?_setCell_other _ _ _ _ (by simp), k]; exact h.c0
  · show ((w1.setCell _ _).setCell _ _).cell? _ = _
    rw [World.cell?_setCell_other _ _ _ _ (by simp)]; exact g1
  · exact World.cell?_setCell_same _ _ _ g2
  · show ((w1.setCell _ _).setCell _ _).frozen? _ = _
    rw [World.frozen?_setCell, World.frozen?_setCell, kf]; exact h.fz j
  · show w.heap.size ≤ ((w1.setCell _ _).setCell _ _).heap.size
    simp [World.setCell, e]
  · show ((w1.setCell _ _).setCell _ _).heap[j]? = _
    have hjg : j ≠ g := fun he => hne (by rw [he])
    rw [Below.heap_setCell _ _ _ _ hjg, Below.heap_setCell _ _ _ _ hjg, e]

theorem u64_nn (y : Int) : 0 ≤ IntKind.u64.wrap y := by
  rw [IntKind.wrap_u64]; omega
theorem shr_and (y : Int) : 0 ≤ wrap64 (bits .and .u64 (IntKind.u64.wrap y / 1099511627776) 255) ∧ wrap64 (bits .and .u64 (IntKind.u64.wrap y / 1099511627776) 255) ≤ 255 := by
  rw [IntKind.wrap_u64]
  have hb : 0 ≤ y % 18446744073709551616 / 1099511627776 ∧ y % 18446744073709551616 / 1099511627776 < 18446744073709551616 := by omega
  generalize y % 18446744073709551616 / 1099511627776 = q at hb
  rw [u64_and q 255 hb.1 hb.2 (by omega) (by omega)]
  have : q.toNat &&& (255 : Int).toNat ≤ 255 := Nat.and_le_right
  generalize q.toNat &&& (255 : Int).toNat = r at this
  unfold wrap64
  omega

/-- What next leaves. -/
def NextPost (g : Nat) (C : Value) (M : Nat) (w : World) (e : Ending) (w' : World) : Prop :=
  ∃ y : Int, e = .returned (.int .i64 y) ∧ 0 ≤ y ∧ y ≤ 255 ∧ CurAt g C (M + 1) w' ∧ w.grownBy w' (some g)

set_option maxRecDepth 100000 in
set_option maxHeartbeats 1000000 in
theorem next_any (g : Nat) (C : Value) (M : Nat) (w : World) (hcur : CurAt g C M w) (hco : CodeAt g C w) (hM : M ≤ 4000000000000000000) :
    Calls Tryd.prog 166 #[.pointer (some ⟨g, 0, none⟩)] w (NextPost g C M w) := by
  obtain ⟨i, x, h1, h2, hi0, hi1, -⟩ := hcur.ex
  have h0 := hcur.c0
  have hf := hcur.fz
  cases hco with
  | nil _ a cap =>
    go_enter Tryd.func166, Tryd.ntmps166
    go_wp2
    go_quiet (fail)
    go_wp2
    go_quiet (fail)
    go_wp2
    go_ret
    exact ⟨_, rfl, (shr_and _).1, (shr_and _).2, (cur_step _ hcur hi0 hi1 (u64_nn _) (by rfl) (by rfl) (by rfl) (by rfl)).1, (cur_step _ hcur hi0 hi1 (u64_nn _) (by rfl) (by rfl) (by rfl) (by rfl)).2⟩
  | row _ b o len cap hb hl hc =>
    by_cases hlt : i < len
    · obtain ⟨n, rfl⟩ : ∃ n : Nat, i = n := ⟨i.toNat, by omega⟩
      obtain ⟨y, hy0, hy1, hcy⟩ := hc n (by omega)
      clear hc
      have hne : ¬ g = b := fun h => hb h.symm
      go_enter Tryd.func166, Tryd.ntmps166
      go_wp2
      go_quiet (fail)
      go_wp2
      go_quiet (fail)
      go_wp2
      go_quiet (fail)
      go_wp2
      go_ret
      exact ⟨_, rfl, hy0, hy1, (cur_step _ hcur hi0 hi1 (u64_nn _) (by rfl) (by rfl) (by rfl) (by rfl)).1, (cur_step _ hcur hi0 hi1 (u64_nn _) (by rfl) (by rfl) (by rfl) (by rfl)).2⟩
    · clear hc
      go_enter Tryd.func166, Tryd.ntmps166
      go_wp2
      go_quiet (fail)
      go_wp2
      go_quiet (fail)
      go_wp2
      go_ret
      exact ⟨_, rfl, (shr_and _).1, (shr_and _).2, (cur_step _ hcur hi0 hi1 (u64_nn _) (by rfl) (by rfl) (by rfl) (by rfl)).1, (cur_step _ hcur hi0 hi1 (u64_nn _) (by rfl) (by rfl) (by rfl) (by rfl)).2⟩

theorem mod_bd (q n : Int) (h0 : 0 ≤ q) (h1 : 0 < n) : 0 ≤ q % n ∧ q % n < n ∧ q % n ≤ q := by
  refine ⟨Int.emod_nonneg _ (by omega), Int.emod_lt_of_pos _ h1, ?_⟩
  by_cases h : q < n
  · rw [Int.emod_eq_of_lt h0 h]; omega
  · have := Int.emod_lt_of_pos q h1; omega

/-- What a draw of a number leaves: fewer than n, and K steps more. -/
def DrawPost (g : Nat) (C : Value) (M : Nat) (w : World) (n : Int) (e : Ending) (w' : World) : Prop :=
  ∃ y : Int, e = .returned (.int .i64 y) ∧ 0 ≤ y ∧ y ≤ 65535 ∧ (0 < n → y < n) ∧ CurAt g C (M + 2) w' ∧ w.grownBy w' (some g)

set_option maxHeartbeats 1000000 in
theorem pick_any (g : Nat) (C : Value) (M : Nat) (n : Int) (w : World) (hcur : CurAt g C M w) (hco : CodeAt g C w) (hM : M ≤ 3999999999999999990) :
    Calls Tryd.prog 114 #[.pointer (some ⟨g, 0, none⟩), .int .i64 n] w (DrawPost g C M w n) := by
  have N1 := next_any g C M w hcur hco (by omega)
  have N2 : ∀ w1, CurAt g C (M + 1) w1 → CodeAt g C w1 → Calls Tryd.prog 166 #[.pointer (some ⟨g, 0, none⟩)] w1 (NextPost g C (M + 1) w1) := fun w1 h1 h2 => next_any g C (M + 1) w1 h1 h2 (by omega)
  have H1 : Hid (Calls Tryd.prog 166 #[.pointer (some ⟨g, 0, none⟩)] w (NextPost g C M w)) := N1
  have H2 : Hid (∀ w1, CurAt g C (M + 1) w1 → CodeAt g C w1 → Calls Tryd.prog 166 #[.pointer (some ⟨g, 0, none⟩)] w1 (NextPost g C (M + 1) w1)) := N2
  clear N1 N2
  by_cases hn1 : n ≤ 1
  · go_enter Tryd.func114, Tryd.ntmps114
    go_wp2
    go_ret
    exact ⟨0, rfl, by omega, by omega, fun h => by omega, hcur.mono (by omega), ⟨rfl, rfl, rfl, Nat.le_refl _, fun _ _ _ => rfl⟩⟩
  · by_cases hn2 : n ≤ 200
    · go_enter Tryd.func114, Tryd.ntmps114
      go_wp2_with fail
      refine H1.out.mono ?_
      rintro e w1 ⟨y, rfl, hy0, hy1, hc1, hg1⟩
      go_wp2
      go_ret
      have hb := mod_bd y n hy0 (by omega)
      exact ⟨y % n, rfl, hb.1, by omega, fun _ => hb.2.1, hc1.mono (by omega), hg1⟩
    · go_enter Tryd.func114, Tryd.ntmps114
      go_wp2_with fail
      refine H1.out.mono ?_
      rintro e w1 ⟨y, rfl, hy0, hy1, hc1, hg1⟩
      have hco1 := hco.grown hg1
      go_wp2_with fail
      refine (H2.out w1 hc1 hco1).mono ?_
      rintro e w2 ⟨z, rfl, hz0, hz1, hc2, hg2⟩
      go_wp2
      go_ret
      have hb := mod_bd (y * 256 + z) n (by omega) (by omega)
      exact ⟨(y * 256 + z) % n, rfl, hb.1, by omega, fun _ => hb.2.1, hc2.mono (by omega), hg1.trans hg2⟩

/-- What a draw of yes or no leaves. -/
def OnePost (g : Nat) (C : Value) (M : Nat) (w : World) (e : Ending) (w' : World) : Prop :=
  ∃ y : Bool, e = .returned (.bool y) ∧ CurAt g C (M + 2) w' ∧ w.grownBy w' (some g)

set_option maxHeartbeats 1000000 in
theorem one_any (g : Nat) (C : Value) (M : Nat) (n : Int) (w : World) (hcur : CurAt g C M w) (hco : CodeAt g C w) (hM : M ≤ 3999999999999999990) :
    Calls Tryd.prog 76 #[.pointer (some ⟨g, 0, none⟩), .int .i64 n] w (OnePost g C M w) := by
  have H1 : Hid (Calls Tryd.prog 114 #[.pointer (some ⟨g, 0, none⟩), .int .i64 n] w (DrawPost g C M w n)) := pick_any g C M n w hcur hco hM
  clear hcur hco hM
  go_enter Tryd.func76, Tryd.ntmps76
  go_wp2_with fail
  refine H1.out.mono ?_
  rintro e w1 ⟨y, rfl, hy0, hy1, _, hc1, hg1⟩
  go_wp2
  go_ret
  exact ⟨_, rfl, hc1, hg1⟩

/-- A list of texts, none longer than S. -/
structure TextsAt (S : Nat) (b o len : Nat) (w : World) : Prop where
  at_ : ∀ j, j < len → ∃ s : ByteArray, s.size ≤ S ∧ w.cell? ⟨b, o + j, none⟩ = some (.string s)

/-- What a draw of a text leaves. -/
def TextPost (g : Nat) (C : Value) (M : Nat) (S : Nat) (w : World) (e : Ending) (w' : World) : Prop :=
  ∃ s : ByteArray, e = .returned (.string s) ∧ s.size ≤ S ∧ CurAt g C M w' ∧ w.grownBy w' (some g)

set_option maxHeartbeats 1000000 in
theorem of_any (g : Nat) (C : Value) (M S : Nat) (b o len cap : Nat) (w : World) (hcur : CurAt g C M w) (hco : CodeAt g C w) (hM : M ≤ 3999999999999999990) (hb : b ≠ g) (hl : TextsAt S b o len w) (h1 : 0 < len) (_h2 : len ≤ 1000000) (_h3 : len ≤ cap) :
    Calls Tryd.prog 140 #[.pointer (some ⟨g, 0, none⟩), .slice (some ⟨b, o, none⟩) len cap] w (TextPost g C (M + 2) S w) := by
  have H1 : Hid (Calls Tryd.prog 114 #[.pointer (some ⟨g, 0, none⟩), .int .i64 len] w (DrawPost g C M w len)) := pick_any g C M len w hcur hco hM
  clear hcur hco hM
  go_enter Tryd.func140, Tryd.ntmps140
  go_wp2_with fail
  refine H1.out.mono ?_
  rintro e w1 ⟨y, rfl, hy0, hy1, hy2, hc1, hg1⟩
  obtain ⟨n, rfl⟩ : ∃ n : Nat, y = n := ⟨y.toNat, by omega⟩
  have hn : n < len := by have := hy2 (by omega); omega
  obtain ⟨s, hs, hcs⟩ := hl.at_ n hn
  have hc' : w1.cell? ⟨b, o + n, none⟩ = some (.string s) := hg1.cell hcs (fun e => hb (by cases e; rfl))
  clear hl hy2 hcs
  go_wp2
  go_ret
  exact ⟨s, rfl, hs, hc1, hg1⟩

end Go.Proofs.YtkjioadmebkaoaaDoor

namespace Go.Proofs.YtkjioadmebkaoaaDoor
open Go.RowKit

theorem u8_small (v : Int) (h0 : 0 ≤ v) (h1 : v ≤ 255) : IntKind.u8.wrap v = v := by simp [IntKind.wrap, IntKind.bits, IntKind.signed]; omega
theorem i64_small (v : Int) (h0 : -1000000000 ≤ v) (h1 : v ≤ 1000000000) : IntKind.i64.wrap v = v := by rw [IntKind.wrap_i64]; omega
theorem grown_refl (w : World) (r : Option Nat) : w.grownBy w r := ⟨rfl, rfl, rfl, Nat.le_refl _, fun _ _ _ => rfl⟩
theorem hidI {p : Prop} (h : p) : Hid p := h
theorem step_in {M t z E : Nat} (hz : z ≤ 3) (hE : 8 ≤ E) : M + t + 2 + 2 + 2 + z * E ≤ M + (t + 8 * E) := by
  have : z * E ≤ 3 * E := Nat.mul_le_mul_right _ hz
  omega
theorem size_in {a t x z E : Nat} {k : UInt8} (hs : a ≤ t) (hx : x ≤ z * E) (hz : z ≤ 3) (hE : 8 ≤ E) : a + ((⟨#[k]⟩ : ByteArray).size + x + (⟨#[47]⟩ : ByteArray).size) ≤ t + 8 * E := by
  have h1 : z * E ≤ 3 * E := Nat.mul_le_mul_right _ hz
  have h2 : (⟨#[k]⟩ : ByteArray).size = 1 := rfl
  have h3 : (⟨#[47]⟩ : ByteArray).size = 1 := rfl
  omega
theorem left_step {t m E N : Nat} (h : t + m * E = N) (hm : 0 < m) : t + E + (m - 1) * E = N := by
  obtain ⟨k, rfl⟩ : ∃ k, m = k + 1 := ⟨m - 1, by omega⟩
  rw [Nat.add_mul, Nat.one_mul] at h
  simp only [Nat.add_sub_cancel]
  omega
theorem left_le {t m E N : Nat} (h : t + m * E = N) (hm : 0 < m) : t + E ≤ N := by
  obtain ⟨k, rfl⟩ : ∃ k, m = k + 1 := ⟨m - 1, by omega⟩
  rw [Nat.add_mul, Nat.one_mul] at h
  omega

theorem texts_new (w : World) (l : List ByteArray) (T : TypeId) (S : Nat) (h : ∀ s ∈ l, s.size ≤ S) : TextsAt S w.heap.size 0 l.length (w.alloc (.cells (l.map Value.string).toArray T)) where
  at_ := fun j hj => by
    refine ⟨l[j], h _ (List.getElem_mem hj), ?_⟩
    rw [Nat.zero_add, World.cell?_alloc_at _ _ _ _ rfl]
    simp [hj]
theorem CurAt.drew {g : Nat} {C : Value} {M : Nat} {w : World} (h : CurAt g C M w) : CurAt g C M w.drew := ⟨h.c0, h.ex, h.fz⟩
theorem CodeAt.drew {g : Nat} {C : Value} {w : World} (h : CodeAt g C w) : CodeAt g C w.drew := h.grown ⟨rfl, rfl, rfl, Nat.le_refl _, fun _ _ _ => rfl⟩
theorem CodeAt.alloc {g : Nat} {C : Value} {w : World} (h : CodeAt g C w) (o : Obj) : CodeAt g C (w.alloc o) := h.grown (World.grownBy_alloc _ _ _)
/-- A text of one byte made of a row of one. -/
theorem conv_one (W : World) (b : Nat) (v : Int) (cap : Nat) (h0 : 0 ≤ v) (h1 : v ≤ 255) (h : W.cell? ⟨b, 0, none⟩ = some (.int .u8 v)) : (convert 22 9 (.slice (some ⟨b, 0, none⟩) 1 cap)).run Tryd.prog W = .ok (.string ⟨#[UInt8.ofNat v.toNat]⟩) W := by
  refine run_convert_bytes_back W _ _ 5 ⟨b, 0, none⟩ cap [UInt8.ofNat v.toNat] Tryd.underlying22 Tryd.underlying5 Tryd.underlying9 ?_
  intro j hj
  match j, hj with
  | 0, _ =>
    show W.cell? ⟨b, 0 + 0, none⟩ = _
    rw [h]
    have : (UInt8.ofNat v.toNat).toNat = v.toNat := by simp [UInt8.toNat_ofNat']; omega
    simp [this]
    omega
theorem cell_new_kept {g : Nat} {W w3 : World} {v : Value} {T : TypeId} (hg : (W.alloc (.cells #[v] T)).grownBy w3 (some g)) (hne : W.heap.size ≠ g) : w3.cell? ⟨W.heap.size, 0, none⟩ = some v :=
  hg.cell (by rw [World.cell?_alloc_at _ _ _ _ rfl]; rfl) (fun e => hne (by cases e; rfl))
theorem conv_new (W : World) (v : Int) (h0 : 0 ≤ v) (h1 : v ≤ 255) : (convert 22 9 (.slice (some ⟨W.heap.size, 0, none⟩) 1 1)).run Tryd.prog (W.alloc (.cells #[.int .u8 v] 5)) = .ok (.string ⟨#[UInt8.ofNat v.toNat]⟩) (W.alloc (.cells #[.int .u8 v] 5)) :=
  conv_one _ _ v 1 h0 h1 (by rw [World.cell?_alloc_at _ _ _ _ rfl]; rfl)
theorem grown_drew {W : World} {r : Option Nat} : W.grownBy W.drew r := ⟨rfl, rfl, rfl, Nat.le_refl _, fun _ _ _ => rfl⟩
def theTexts : List ByteArray := [⟨#[97]⟩, ⟨#[98]⟩, ⟨#[97, 98]⟩, ⟨#[120]⟩, ⟨#[32]⟩, ⟨#[111, 110, 101]⟩, ⟨#[49]⟩, ⟨#[122, 46]⟩]
theorem theTexts_le : ∀ s ∈ theTexts, s.size ≤ 3 := by decide

set_option maxRecDepth 100000 in
set_option maxHeartbeats 1000000 in
theorem inner_zero (g : Nat) (C : Value) (M n : Nat) (w : World) (hcur : CurAt g C M w) (hco : CodeAt g C w) (hn : n ≤ 60) (hM : M ≤ 2000000000000000) :
    Calls Tryd.prog 139 #[.pointer (some ⟨g, 0, none⟩), .int .i64 n, .int .i64 0] w (TextPost g C (M + n * 8) (n * 8) w) := by
  go_enter Tryd.func139, Tryd.ntmps139
  go_wp2
  go_loopw [1, 7] (fun nv sv wr => ∃ (m t : Nat) (s : ByteArray), m ≤ n ∧ nv = .int .i64 m ∧ sv = .string s ∧ s.size ≤ t ∧ Hid (t + m * 8 = n * 8) ∧ CurAt g C (M + t) wr ∧ w.grownBy wr (some g)) (fun nv _ _ => (intOf nv).toNat)
  case atStart => exact ⟨n, 0, ⟨#[]⟩, Nat.le_refl _, rfl, rfl, Nat.le_refl _, hidI (by omega), hcur, grown_refl _ _⟩
  case round =>
    obtain ⟨m, t, s, hm, rfl, rfl, hs, ht, hc, hg⟩ := hrel
    by_cases h0 : 0 < m
    · have htl : t ≤ 480 := by have := ht.out; omega
      have hco1 := hco.grown hg
      have hgl := hc.lt
      go_wp2_with fail
      refine (of_any g C (M + t) 3 wr.heap.size 0 8 8 _ (hc.alloc _) (hco1.grown (World.grownBy_alloc _ _ _)) (by omega) (by omega) (texts_new wr theTexts 9 3 theTexts_le) (by omega) (by omega) (by omega)).mono ?_
      rintro e w1 ⟨x, rfl, hx, hc1, hg1⟩
      have hg2 := hg.trans ((World.grownBy_alloc wr _ (some g)).trans hg1)
      go_wp2
      go_roundw
      case rel => exact ⟨m - 1, t + 8, s ++ x, by omega, by go_num, rfl, by rw [ByteArray.size_append]; omega, left_step ht.out h0, hc1.mono (by omega), hg2⟩
      case measure => simp [intOf]; omega
    · obtain rfl : m = 0 := by omega
      have e : t = n * 8 := by have := ht.out; omega
      have E : Hid (t = n * 8) := e
      clear e ht
      go_wp2
      go_ret
      exact ⟨s, rfl, by rw [← E.out]; exact hs, by rw [← E.out]; exact hc, hg⟩

set_option maxRecDepth 100000 in
set_option maxHeartbeats 2000000 in
theorem inner_succ (g : Nat) (C : Value) (E B : Nat) (hB : B ≤ 2000000000000000) (d : Int) (hd0 : 0 < d) (hd1 : d ≤ 3) (hE : 8 ≤ E) (hE2 : E ≤ 4096)
    (ih : ∀ (M n : Nat) (w : World), CurAt g C M w → CodeAt g C w → n ≤ 3 → M ≤ B → Calls Tryd.prog 139 #[.pointer (some ⟨g, 0, none⟩), .int .i64 n, .int .i64 (d - 1)] w (TextPost g C (M + n * E) (n * E) w))
    (M n : Nat) (w : World) (hcur : CurAt g C M w) (hco : CodeAt g C w) (hn : n ≤ 60) (hM : M + 2000000 ≤ B) :
    Calls Tryd.prog 139 #[.pointer (some ⟨g, 0, none⟩), .int .i64 n, .int .i64 d] w (TextPost g C (M + n * (8 * E)) (n * (8 * E)) w) := by
  have IH := hidI ih
  clear ih
  go_enter Tryd.func139, Tryd.ntmps139
  go_wp2
  go_loopw [1, 7] (fun nv sv wr => ∃ (m t : Nat) (s : ByteArray), m ≤ n ∧ nv = .int .i64 m ∧ sv = .string s ∧ s.size ≤ t ∧ Hid (t + m * (8 * E) = n * (8 * E)) ∧ CurAt g C (M + t) wr ∧ w.grownBy wr (some g)) (fun nv _ _ => (intOf nv).toNat)
  case atStart => exact ⟨n, 0, ⟨#[]⟩, Nat.le_refl _, rfl, rfl, Nat.le_refl _, hidI (by omega), hcur, grown_refl _ _⟩
  case round =>
    obtain ⟨m, t, s, hm, rfl, rfl, hs, ht, hc, hg⟩ := hrel
    by_cases h0 : 0 < m
    · have htl : t ≤ 60 * 32768 := by
        have h1 := left_le ht.out h0
        have h2 : n * (8 * E) ≤ 60 * 32768 := Nat.mul_le_mul hn (by omega)
        omega
      have hco1 := hco.grown hg
      have hgl := hc.lt
      go_wp2_with fail
      refine (one_any g C (M + t) 3 wr hc hco1 (by omega)).mono ?_
      rintro e w1 ⟨y, rfl, hc1, hg1⟩
      have hco2 := hco1.grown hg1
      have hgg := hg.trans hg1
      clear hc hco1 hg1 hg
      cases y with
      | true =>
        go_wp2_with fail
        have hdw : IntKind.i64.wrap (d - 1) = d - 1 := i64_small _ (by omega) (by omega)
        go_region_with (first
          | (go_at_call 114; have _tk := hc1; go_must (refine (pick_any g C (M + t + 2) 4 _ (by repeat (first | exact hc1 | apply CurAt.drew | apply CurAt.alloc)) (by repeat (first | exact hco2 | apply CodeAt.drew | apply CodeAt.alloc)) (by omega)).mono ?_; rintro e w2 ⟨y, rfl, hy0, hy1, hy2, hc2, hg2⟩; have hco3 := CodeAt.grown (by repeat (first | exact hco2 | apply CodeAt.drew | apply CodeAt.alloc)) hg2; have hy3 := hy2 (by omega); have hgA := (hgg.trans grown_drew).trans hg2; have hl2 := hc2.lt; have hw1 : IntKind.i64.wrap (65 + y) = 65 + y := i64_small _ (by omega) (by omega); have hw2 : IntKind.u8.wrap (65 + y) = 65 + y := u8_small _ (by omega) (by omega); have kc := fun W => conv_new W (65 + y) (by omega) (by omega); clear hy2 hc1 _tk hgg hg2))
          | (go_at_call 114; refine (pick_any g C (M + t + 2 + 2) 4 _ (by repeat (first | exact hc2 | apply CurAt.drew | apply CurAt.alloc)) (by repeat (first | exact hco3 | apply CodeAt.drew | apply CodeAt.alloc)) (by omega)).mono ?_; rintro e w3 ⟨z, rfl, hz0, hz1, hz2, hc3, hg3⟩; have hco4 := CodeAt.grown (by repeat (first | exact hco3 | apply CodeAt.drew | apply CodeAt.alloc)) hg3; have hz3 := hz2 (by omega); have hl3 := hc3.lt; have hgB := World.grownBy.trans (by first | exact hgA | exact hgA.trans (World.grownBy_alloc _ _ _)) hg3; (try (have hk3 := cell_new_kept hg3 (by omega); have kc3 := conv_one w3 _ _ 1 (by omega) (by omega) hk3)); obtain ⟨z', hz'⟩ : ∃ z' : Nat, z = z' := ⟨z.toNat, by omega⟩; subst hz'; clear hz2 hc2 hgA hg3)
          | (go_at_call 139; refine (IH.out (M + t + 2 + 2 + 2) z' _ (by repeat (first | exact hc3 | apply CurAt.drew | apply CurAt.alloc)) (by repeat (first | exact hco4 | apply CodeAt.drew | apply CodeAt.alloc)) (by omega) (by omega)).mono ?_; rintro e w4 ⟨x, rfl, hx, hc4, hg4⟩; have hxb : x.size ≤ 12288 := Nat.le_trans hx (Nat.le_trans (Nat.mul_le_mul (show z' ≤ 3 by omega) hE2) (by omega)); have hgC := World.grownBy.trans (by first | exact hgB | exact hgB.trans (World.grownBy_alloc _ _ _)) hg4; (try (have hk4 := hg4.cell hk3 (by simp; omega); have kc4 := conv_one w4 _ _ 1 (by omega) (by omega) hk4)); (try (have hk5 := cell_new_kept hg4 (by omega); have kc5 := conv_one w4 _ _ 1 (by omega) (by omega) hk5)); clear hc3 hgB hg4))
        all_goals
          clear kc
          (try clear kc3)
          (try clear kc4)
          (try clear kc5)
          (try clear hk3)
          (try clear hk4)
          (try clear hk5)
          go_wp2
          go_roundw
          case rel => exact ⟨m - 1, t + 8 * E, _, by omega, by go_num, rfl, by simp only [ByteArray.size_append]; exact size_in hs hx (by omega) hE, left_step ht.out h0, CurAt.mono (by repeat (first | exact hc4 | apply CurAt.drew | apply CurAt.alloc)) (step_in (by omega) hE), by first | exact hgC | exact hgC.trans (World.grownBy_alloc _ _ _)⟩
          case measure => simp [intOf]; omega
      | false =>
        go_wp2_with fail
        refine (of_any g C (M + t + 2) 3 w1.heap.size 0 8 8 _ (hc1.alloc _) (hco2.grown (World.grownBy_alloc _ _ _)) (by omega) (by have := hc1.lt; omega) (texts_new w1 theTexts 9 3 theTexts_le) (by omega) (by omega) (by omega)).mono ?_
        rintro e w2 ⟨x, rfl, hx, hc2, hg2⟩
        have hg3 := hgg.trans ((World.grownBy_alloc w1 _ (some g)).trans hg2)
        go_wp2
        go_roundw
        case rel => exact ⟨m - 1, t + 8 * E, s ++ x, by omega, by go_num, rfl, by rw [ByteArray.size_append]; omega, left_step ht.out h0, hc2.mono (by omega), hg3⟩
        case measure => simp [intOf]; omega
    · obtain rfl : m = 0 := by omega
      have e : t = n * (8 * E) := by have := ht.out; omega
      have HE : Hid (t = n * (8 * E)) := e
      clear e ht
      go_wp2
      go_ret
      exact ⟨s, rfl, by rw [← HE.out]; exact hs, by rw [← HE.out]; exact hc, hg⟩

theorem inner_three (g : Nat) (C : Value) (M n : Nat) (w : World) (hcur : CurAt g C M w) (hco : CodeAt g C w) (hn : n ≤ 60) (hM : M ≤ 1900000000000000) :
    Calls Tryd.prog 139 #[.pointer (some ⟨g, 0, none⟩), .int .i64 n, .int .i64 3] w (TextPost g C (M + n * 4096) (n * 4096) w) := by
  have i0 : ∀ (M n : Nat) (w : World), CurAt g C M w → CodeAt g C w → n ≤ 3 → M ≤ 2000000000000000 → Calls Tryd.prog 139 #[.pointer (some ⟨g, 0, none⟩), .int .i64 n, .int .i64 (1 - 1)] w (TextPost g C (M + n * 8) (n * 8) w) :=
    fun M n w h1 h2 h3 h4 => inner_zero g C M n w h1 h2 (by omega) h4
  have i1 : ∀ (M n : Nat) (w : World), CurAt g C M w → CodeAt g C w → n ≤ 3 → M ≤ 1980000000000000 → Calls Tryd.prog 139 #[.pointer (some ⟨g, 0, none⟩), .int .i64 n, .int .i64 (2 - 1)] w (TextPost g C (M + n * 64) (n * 64) w) :=
    fun M n w h1 h2 h3 h4 => inner_succ g C 8 2000000000000000 (by omega) 1 (by omega) (by omega) (by omega) (by omega) i0 M n w h1 h2 (by omega) (by omega)
  have i2 : ∀ (M n : Nat) (w : World), CurAt g C M w → CodeAt g C w → n ≤ 3 → M ≤ 1960000000000000 → Calls Tryd.prog 139 #[.pointer (some ⟨g, 0, none⟩), .int .i64 n, .int .i64 (3 - 1)] w (TextPost g C (M + n * 512) (n * 512) w) :=
    fun M n w h1 h2 h3 h4 => inner_succ g C 64 1980000000000000 (by omega) 2 (by omega) (by omega) (by omega) (by omega) i1 M n w h1 h2 (by omega) (by omega)
  exact inner_succ g C 512 1960000000000000 (by omega) 3 (by omega) (by omega) (by omega) (by omega) i2 M n w hcur hco hn (by omega)

end Go.Proofs.YtkjioadmebkaoaaDoor

namespace Go.Proofs.YtkjioadmebkaoaaDoor
open Go.RowKit

theorem CurAt.drewN {g : Nat} {C : Value} {M : Nat} {w : World} (h : CurAt g C M w) (n : Nat) : CurAt g C M (w.drewN n) := ⟨h.c0, h.ex, h.fz⟩
theorem grown_drewN {W : World} {r : Option Nat} (n : Nat) : W.grownBy (W.drewN n) r := ⟨rfl, rfl, rfl, Nat.le_refl _, fun _ _ _ => rfl⟩

set_option maxRecDepth 100000 in
set_option maxHeartbeats 2000000 in
theorem spoilt_any (g : Nat) (C : Value) (M : Nat) (t v : ByteArray) (w : World) (hcur : CurAt g C M w) (hco : CodeAt g C w) (hM : M ≤ 3000000000000000000) (ht : t.size ≤ 500000) (hv : 0 < v.size) (hv2 : v.size ≤ 100) :
    Calls Tryd.prog 141 #[.pointer (some ⟨g, 0, none⟩), .string t, .string v] w (TextPost g C (M + 20) (t.size + 3) w) := by
  go_enter Tryd.func141, Tryd.ntmps141
  go_wp2_with fail
  refine (pick_any g C M 3 w hcur hco (by omega)).mono ?_
  rintro e w1 ⟨y, rfl, hy0, hy1, hy2, hc1, hg1⟩
  have hy3 := hy2 (by omega)
  clear hy2 hcur
  obtain ⟨n, rfl⟩ : ∃ n : Nat, y = n := ⟨y.toNat, by omega⟩
  go_wp2
  go_loopw [1, 7] (fun tv nv wr => ∃ (m : Nat) (u : ByteArray), m ≤ n ∧ nv = .int .i64 m ∧ tv = .string u ∧ u.size + m ≤ t.size + n ∧ CurAt g C (M + 2 + (n - m) * 6) wr ∧ w.grownBy wr (some g)) (fun _ nv _ => (intOf nv).toNat)
  case atStart => exact ⟨n, t, Nat.le_refl _, rfl, rfl, Nat.le_refl _, by simpa using hc1, hg1⟩
  case round =>
    obtain ⟨m, u, hm, rfl, rfl, hu, hc, hg⟩ := hrel
    by_cases h0 : 0 < m ∧ 0 < u.size
    · obtain ⟨h0, hu0⟩ := h0
      have hcor : CodeAt g C wr := hco.grown hg
      go_wp2_with fail
      refine (pick_any g C _ u.size wr hc hcor (by omega)).mono ?_
      rintro e w2 ⟨i, rfl, hi0, hi1, hi2, hc2, hg2⟩
      have hi3 := hi2 (by omega)
      obtain ⟨k, rfl⟩ : ∃ k : Nat, i = k := ⟨i.toNat, by omega⟩
      have hk : k < u.size := by omega
      have hco2 := hcor.grown hg2
      have hgA := hg.trans hg2
      clear hi2 hc hcor hg hg2
      go_wp2_with fail
      refine (pick_any g C _ v.size w2 hc2 hco2 (by omega)).mono ?_
      rintro e w3 ⟨j, rfl, hj0, hj1, hj2, hc3, hg3⟩
      have hj3 := hj2 (by omega)
      obtain ⟨q, rfl⟩ : ∃ q : Nat, j = q := ⟨j.toNat, by omega⟩
      have hq : q < v.size := by omega
      have hco3 := hco2.grown hg3
      have hgB := hgA.trans hg3
      have hcv := conv_new w3 (v[q].toNat : Int) (by omega) (by have := UInt8.toNat_lt v[q]; omega)
      obtain ⟨z, hz⟩ : ∃ z : ByteArray, z = ⟨#[UInt8.ofNat (v[q].toNat : Int).toNat]⟩ := ⟨_, rfl⟩
      have hz1 : z.size = 1 := by rw [hz]; rfl
      rw [← hz] at hcv
      clear hj2 hc2 hco2 hg3 hgA hz
      go_wp2_with fail
      refine (pick_any g C _ 3 _ (hc3.alloc _) (hco3.alloc _) (by omega)).mono ?_
      rintro e w4 ⟨x, rfl, hx0, hx1, hx2, hc4, hg4⟩
      have hx3 := hx2 (by omega)
      have hgC := (hgB.trans (World.grownBy_alloc w3 _ (some g))).trans hg4
      clear hx2 hc3 hco3 hg4 hgB hcv
      have hz2 : z.size ≤ 1 := by omega
      clear hz1
      go_wp2
      all_goals
        go_quiet (fail)
        go_wp2
        go_roundw
        case rel => exact ⟨m - 1, _, by omega, by go_num, rfl, by simp only [ByteArray.size_append, ByteArray.size_extract]; omega, CurAt.drewN (hc4.mono (by omega)) _, hgC.trans (grown_drewN _)⟩
        case measure => simp [intOf]; omega
    · by_cases hm0 : m = 0
      · subst hm0
        go_wp2
        go_ret
        exact ⟨u, rfl, by omega, hc.mono (by omega), hg⟩
      · have hus : (u.size : Int) ≤ 0 := by omega
        go_wp2
        go_ret
        exact ⟨u, rfl, by omega, hc.mono (by omega), hg⟩


/-- What the drawing of bytes leaves. -/
def BytesPost (g : Nat) (C : Value) (M : Nat) (S : Nat) (w : World) (e : Ending) (w' : World) : Prop :=
  ∃ (v : Value) (l : List UInt8), e = .returned v ∧ l.length ≤ S ∧ w'.ownsRow w.heap.size 5 1 v l.length (l.map fun c => Value.int .u8 (c.toNat : Int)) ∧ CurAt g C M w' ∧ w.grownBy w' (some g)

theorem Tryd.info5' : (Tryd.prog.info? 5).map (fun i => (i.zero, i.size, i.bytes)) = some (some (.int .u8 0), 1, 1) := by kernel_rfl
theorem u8_of (y : Int) (h0 : 0 ≤ y) (h1 : y ≤ 255) : ∃ c : UInt8, y = (c.toNat : Int) := ⟨UInt8.ofNat y.toNat, by simp [UInt8.toNat_ofNat']; omega⟩
theorem own_far {w w' : World} {g B : Nat} {v : Value} {n : Nat} {xs : List Value} (h : w.ownsRow B 5 1 v n xs) (hB : g < B) (hg : w.grownBy w' (some g)) : w'.ownsRow B 5 1 v n xs := by
  refine h.kept hg ?_
  rcases h.2 with ⟨rfl, _⟩ | ⟨q, cap, cur, rfl, hq, _⟩
  · exact .inl rfl
  · refine .inr ?_
    simp [Value.ownBlock]; omega
theorem cur_far {g B M : Nat} {C v : Value} {w w' : World} {n : Nat} {xs : List Value} (h : CurAt g C M w) (ho : w.ownsRow B 5 1 v n xs) (hB : g < B) (hg : w.grownBy w' v.ownBlock) : CurAt g C M w' := by
  have hne : ∀ a : Addr, a.block = g → some a.block ≠ v.ownBlock := by
    intro a ha
    rcases ho.2 with ⟨rfl, _⟩ | ⟨q, cap, cur, rfl, hq, _⟩
    · simp [Value.ownBlock]
    · simp [Value.ownBlock]; omega
  refine { c0 := hg.cell h.c0 (hne _ rfl), ex := ?_, fz := fun j => ?_ }
  · obtain ⟨i, x, a, b, c, d⟩ := h.ex
    exact ⟨i, x, hg.cell a (hne _ rfl), hg.cell b (hne _ rfl), c, d⟩
  · rw [World.frozen?_of_block (w := w) (hg.block g h.lt (hne ⟨g, 0, none⟩ rfl))]; exact h.fz j
theorem grown_own {w wr w' : World} {g : Nat} {v : Value} {n : Nat} {xs : List Value} (hg : w.grownBy wr (some g)) (ho : wr.ownsRow w.heap.size 5 1 v n xs) (h : wr.grownBy w' v.ownBlock) : w.grownBy w' (some g) := by
  refine ⟨h.os.trans hg.os, h.tape.trans hg.tape, h.output.trans hg.output, Nat.le_trans hg.size h.size, fun k hk hne => ?_⟩
  have h1 := hg.block k hk hne
  have h2 := h.block k (by have := hg.size; omega) (by
    rcases ho.2 with ⟨rfl, _⟩ | ⟨q, cap, cur, rfl, hq, _⟩
    · simp [Value.ownBlock]
    · simp [Value.ownBlock]; omega)
  exact h2.trans h1

end Go.Proofs.YtkjioadmebkaoaaDoor
