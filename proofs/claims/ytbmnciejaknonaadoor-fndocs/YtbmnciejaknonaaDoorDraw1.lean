/- The contracts of the drawing cursor: next, pick, one, of. -/
import Derived.Test.YtbmnciejaknonaaDoorWalks1
import Derived.Deep.QuietTactic
import Derived.BigQuiet
import Derived.Maps.AppendAt
namespace Go.Proofs.YtbmnciejaknonaaDoor
open Go.RowKit

/-- The cursor lies in block g; it has made at most M steps; C is the code that it reads. -/
structure CurAt (g : Nat) (C : Value) (M : Nat) (w : World) : Prop where
  c0 : w.cell? ⟨g, 0, none⟩ = some C
  ex : ∃ (i : Int) (x : Int), w.cell? ⟨g, 1, none⟩ = some (.int .i64 i) ∧ w.cell? ⟨g, 2, none⟩ = some (.int .u64 x) ∧ 0 ≤ i ∧ i ≤ M
  fz : ∀ j, w.frozen? ⟨g, j, none⟩ = false

/-- The code can be read: a slice of bytes. -/
inductive CodeAt (g : Nat) : Value → World → Prop
  | nil (w : World) (a : Option Addr) (cap : Nat) : CodeAt g (.slice a 0 cap) w
  | row (w : World) (b o len cap : Nat) (hb : b ≠ g) (hl : len ≤ cap) (h : ∀ j, j < len → ∃ x : Int, 0 ≤ x ∧ x ≤ 255 ∧ w.cell? ⟨b, o + j, none⟩ = some (.int .u8 x)) : CodeAt g (.slice (some ⟨b, o, none⟩) len cap) w

theorem CodeAt.grown {g : Nat} {C : Value} {w w' : World} (h : CodeAt g C w) (hg : w.grownBy w' (some g)) : CodeAt g C w' := by
  cases h with
  | nil _ a cap => exact .nil w' a cap
  | row _ b o len cap hb hl h =>
    refine .row w' b o len cap hb hl fun j hj => ?_
    obtain ⟨x, h0, h1, hx⟩ := h j hj
    exact ⟨x, h0, h1, hg.cell hx (fun e => hb (by cases e; rfl))⟩
theorem CurAt.mono {g : Nat} {C : Value} {M N : Nat} {w : World} (h : CurAt g C M w) (hl : M ≤ N) : CurAt g C N w where
  c0 := h.c0
  ex := by obtain ⟨i, x, a, b, c, d⟩ := h.ex; exact ⟨i, x, a, b, c, by omega⟩
  fz := h.fz
theorem CurAt.alloc {g : Nat} {C : Value} {M : Nat} {w : World} (h : CurAt g C M w) (o : Obj) : CurAt g C M (w.alloc o) := by
  have hg : w.grownBy (w.alloc o) none := World.grownBy_alloc w o none
  have hlt : g < w.heap.size := by
    have := h.c0
    unfold World.cell? at this
    apply Classical.byContradiction
    intro hn
    rw [Array.getElem?_eq_none (by simpa using hn)] at this
    simp at this
  refine { c0 := hg.cell h.c0 (by simp), ex := ?_, fz := fun j => ?_ }
  · obtain ⟨i, x, a, b, c, d⟩ := h.ex
    exact ⟨i, x, hg.cell a (by simp), hg.cell b (by simp), c, d⟩
  · rw [World.frozen?_of_block (w := w) (hg.block g hlt (by simp))]; exact h.fz j
theorem CurAt.lt {g : Nat} {C : Value} {M : Nat} {w : World} (h : CurAt g C M w) : g < w.heap.size := by
  have := h.c0
  unfold World.cell? at this
  apply Classical.byContradiction
  intro hn
  rw [Array.getElem?_eq_none (by simpa using hn)] at this
  simp at this

theorem cur_step {g : Nat} {C : Value} {M : Nat} {w w1 : World} {i z : Int} (b : Nat) (h : CurAt g C M w) (hi0 : 0 ≤ i) (hi : i ≤ M) (e : w1.heap = w.heap) (e1 : w1.os = w.os) (e2 : w1.tape = w.tape) (e3 : w1.output = w.output) :
    CurAt g C (M + 1) (((w1.setCell ⟨g, 1, none⟩ (.int .i64 (i + 1))).setCell ⟨g, 2, none⟩ (.int .u64 z)).drewN b) ∧
      w.grownBy (((w1.setCell ⟨g, 1, none⟩ (.int .i64 (i + 1))).setCell ⟨g, 2, none⟩ (.int .u64 z)).drewN b) (some g) := by
  obtain ⟨i0, x0, h1, h2, _, _⟩ := h.ex
  have k : ∀ a, w1.cell? a = w.cell? a := fun a => by simp [World.cell?, e]
  have kf : ∀ a, w1.frozen? a = w.frozen? a := fun a => by simp [World.frozen?, e]
  have g1 : (w1.setCell ⟨g, 1, none⟩ (.int .i64 (i + 1))).cell? ⟨g, 1, none⟩ = some (.int .i64 (i + 1)) := World.cell?_setCell_same _ _ _ (by rw [k]; exact h1)
  have g2 : (w1.setCell ⟨g, 1, none⟩ (.int .i64 (i + 1))).cell? ⟨g, 2, none⟩ = some (.int .u64 x0) := by rw [World.cell?_setCell_other _ _ _ _ (by simp), k]; exact h2
  refine ⟨{ c0 := ?_, ex := ⟨i + 1, z, ?_, ?_, by omega, by omega⟩, fz := fun j => ?_ }, ⟨e1, e2, e3, ?_, fun j hj hne => ?_⟩⟩
  · show ((w1.setCell _ _).setCell _ _).cell? _ = _
    rw [World.cell?_setCell_other _ _ _ _ (by simp), World.cell?_setCell_other _ _ _ _ (by simp), k]; exact h.c0
  · show ((w1.setCell _ _).setCell _ _).cell? _ = _
    rw [World.cell?_setCell_other _ _ _ _ (by simp)]; exact g1
  · exact World.cell?_setCell_same _ _ _ g2
  · show ((w1.setCell _ _).setCell _ _).frozen? _ = _
    rw [World.frozen?_setCell, World.frozen?_setCell, kf]; exact h.fz j
  · show w.heap.size ≤ ((w1.setCell _ _).setCell _ _).heap.size
    simp [World.setCell, e]
  · show ((w1.setCell _ _).setCell _ _).heap[j]? = _
    have hjg : j ≠ g := fun he => hne (by rw [he])
    rw [Below.heap_setCell _ _ _ _ hjg, Below.heap_setCell _ _ _ _ hjg, e]

theorem shr_and (y : Int) : 0 ≤ wrap64 (bits .and .u64 (IntKind.u64.wrap y / 1099511627776) 255) ∧ wrap64 (bits .and .u64 (IntKind.u64.wrap y / 1099511627776) 255) ≤ 255 := by
  rw [IntKind.wrap_u64]
  have hb : 0 ≤ y % 18446744073709551616 / 1099511627776 ∧ y % 18446744073709551616 / 1099511627776 < 18446744073709551616 := by omega
  generalize y % 18446744073709551616 / 1099511627776 = q at hb
  rw [u64_and q 255 hb.1 hb.2 (by omega) (by omega)]
  have : q.toNat &&& (255 : Int).toNat ≤ 255 := Nat.and_le_right
  generalize q.toNat &&& (255 : Int).toNat = r at this
  unfold wrap64
  omega

/-- What next leaves. -/
def NextPost (g : Nat) (C : Value) (M : Nat) (w : World) (e : Ending) (w' : World) : Prop :=
  ∃ y : Int, e = .returned (.int .i64 y) ∧ 0 ≤ y ∧ y ≤ 255 ∧ CurAt g C (M + 1) w' ∧ w.grownBy w' (some g)

set_option maxRecDepth 100000 in
set_option maxHeartbeats 1000000 in
theorem next_any (g : Nat) (C : Value) (M : Nat) (w : World) (hcur : CurAt g C M w) (hco : CodeAt g C w) (hM : M ≤ 1000000000) :
    Calls Tryd.prog 119 #[.pointer (some ⟨g, 0, none⟩)] w (NextPost g C M w) := by
  obtain ⟨i, x, h1, h2, hi0, hi1⟩ := hcur.ex
  have h0 := hcur.c0
  have hf := hcur.fz
  cases hco with
  | nil _ a cap =>
    go_enter Tryd.func119, Tryd.ntmps119
    go_wp2
    go_quiet (fail)
    go_wp2
    go_quiet (fail)
    go_wp2
    go_ret
    exact ⟨_, rfl, (shr_and _).1, (shr_and _).2, (cur_step _ hcur hi0 hi1 (by rfl) (by rfl) (by rfl) (by rfl)).1, (cur_step _ hcur hi0 hi1 (by rfl) (by rfl) (by rfl) (by rfl)).2⟩
  | row _ b o len cap hb hl hc =>
    by_cases hlt : i < len
    · obtain ⟨n, rfl⟩ : ∃ n : Nat, i = n := ⟨i.toNat, by omega⟩
      obtain ⟨y, hy0, hy1, hcy⟩ := hc n (by omega)
      clear hc
      have hne : ¬ g = b := fun h => hb h.symm
      go_enter Tryd.func119, Tryd.ntmps119
      go_wp2
      go_quiet (fail)
      go_wp2
      go_quiet (fail)
      go_wp2
      go_quiet (fail)
      go_wp2
      go_ret
      exact ⟨_, rfl, hy0, hy1, (cur_step _ hcur hi0 hi1 (by rfl) (by rfl) (by rfl) (by rfl)).1, (cur_step _ hcur hi0 hi1 (by rfl) (by rfl) (by rfl) (by rfl)).2⟩
    · clear hc
      go_enter Tryd.func119, Tryd.ntmps119
      go_wp2
      go_quiet (fail)
      go_wp2
      go_quiet (fail)
      go_wp2
      go_ret
      exact ⟨_, rfl, (shr_and _).1, (shr_and _).2, (cur_step _ hcur hi0 hi1 (by rfl) (by rfl) (by rfl) (by rfl)).1, (cur_step _ hcur hi0 hi1 (by rfl) (by rfl) (by rfl) (by rfl)).2⟩

theorem mod_bd (q n : Int) (h0 : 0 ≤ q) (h1 : 0 < n) : 0 ≤ q % n ∧ q % n < n ∧ q % n ≤ q := by
  refine ⟨Int.emod_nonneg _ (by omega), Int.emod_lt_of_pos _ h1, ?_⟩
  by_cases h : q < n
  · rw [Int.emod_eq_of_lt h0 h]; omega
  · have := Int.emod_lt_of_pos q h1; omega

/-- What a draw of a number leaves: fewer than n, and K steps more. -/
def DrawPost (g : Nat) (C : Value) (M : Nat) (w : World) (n : Int) (e : Ending) (w' : World) : Prop :=
  ∃ y : Int, e = .returned (.int .i64 y) ∧ 0 ≤ y ∧ y ≤ 65535 ∧ (0 < n → y < n) ∧ CurAt g C (M + 2) w' ∧ w.grownBy w' (some g)

set_option maxHeartbeats 1000000 in
theorem pick_any (g : Nat) (C : Value) (M : Nat) (n : Int) (w : World) (hcur : CurAt g C M w) (hco : CodeAt g C w) (hM : M ≤ 999999999) :
    Calls Tryd.prog 82 #[.pointer (some ⟨g, 0, none⟩), .int .i64 n] w (DrawPost g C M w n) := by
  have N1 := next_any g C M w hcur hco (by omega)
  have N2 : ∀ w1, CurAt g C (M + 1) w1 → CodeAt g C w1 → Calls Tryd.prog 119 #[.pointer (some ⟨g, 0, none⟩)] w1 (NextPost g C (M + 1) w1) := fun w1 h1 h2 => next_any g C (M + 1) w1 h1 h2 (by omega)
  have H1 : Hid (Calls Tryd.prog 119 #[.pointer (some ⟨g, 0, none⟩)] w (NextPost g C M w)) := N1
  have H2 : Hid (∀ w1, CurAt g C (M + 1) w1 → CodeAt g C w1 → Calls Tryd.prog 119 #[.pointer (some ⟨g, 0, none⟩)] w1 (NextPost g C (M + 1) w1)) := N2
  clear N1 N2
  by_cases hn1 : n ≤ 1
  · go_enter Tryd.func82, Tryd.ntmps82
    go_wp2
    go_ret
    exact ⟨0, rfl, by omega, by omega, fun h => by omega, hcur.mono (by omega), ⟨rfl, rfl, rfl, Nat.le_refl _, fun _ _ _ => rfl⟩⟩
  · by_cases hn2 : n ≤ 200
    · go_enter Tryd.func82, Tryd.ntmps82
      go_wp2_with fail
      refine H1.out.mono ?_
      rintro e w1 ⟨y, rfl, hy0, hy1, hc1, hg1⟩
      go_wp2
      go_ret
      have hb := mod_bd y n hy0 (by omega)
      exact ⟨y % n, rfl, hb.1, by omega, fun _ => hb.2.1, hc1.mono (by omega), hg1⟩
    · go_enter Tryd.func82, Tryd.ntmps82
      go_wp2_with fail
      refine H1.out.mono ?_
      rintro e w1 ⟨y, rfl, hy0, hy1, hc1, hg1⟩
      have hco1 := hco.grown hg1
      go_wp2_with fail
      refine (H2.out w1 hc1 hco1).mono ?_
      rintro e w2 ⟨z, rfl, hz0, hz1, hc2, hg2⟩
      go_wp2
      go_ret
      have hb := mod_bd (y * 256 + z) n (by omega) (by omega)
      exact ⟨(y * 256 + z) % n, rfl, hb.1, by omega, fun _ => hb.2.1, hc2.mono (by omega), hg1.trans hg2⟩

/-- What a draw of yes or no leaves. -/
def OnePost (g : Nat) (C : Value) (M : Nat) (w : World) (e : Ending) (w' : World) : Prop :=
  ∃ y : Bool, e = .returned (.bool y) ∧ CurAt g C (M + 2) w' ∧ w.grownBy w' (some g)

set_option maxHeartbeats 1000000 in
theorem one_any (g : Nat) (C : Value) (M : Nat) (n : Int) (w : World) (hcur : CurAt g C M w) (hco : CodeAt g C w) (hM : M ≤ 999999999) :
    Calls Tryd.prog 93 #[.pointer (some ⟨g, 0, none⟩), .int .i64 n] w (OnePost g C M w) := by
  have H1 : Hid (Calls Tryd.prog 82 #[.pointer (some ⟨g, 0, none⟩), .int .i64 n] w (DrawPost g C M w n)) := pick_any g C M n w hcur hco hM
  clear hcur hco hM
  go_enter Tryd.func93, Tryd.ntmps93
  go_wp2_with fail
  refine H1.out.mono ?_
  rintro e w1 ⟨y, rfl, hy0, hy1, _, hc1, hg1⟩
  go_wp2
  go_ret
  exact ⟨_, rfl, hc1, hg1⟩

/-- A list of texts, none longer than S. -/
structure TextsAt (S : Nat) (b o len : Nat) (w : World) : Prop where
  at_ : ∀ j, j < len → ∃ s : ByteArray, s.size ≤ S ∧ w.cell? ⟨b, o + j, none⟩ = some (.string s)

/-- What a draw of a text leaves. -/
def TextPost (g : Nat) (C : Value) (M : Nat) (S : Nat) (w : World) (e : Ending) (w' : World) : Prop :=
  ∃ s : ByteArray, e = .returned (.string s) ∧ s.size ≤ S ∧ CurAt g C M w' ∧ w.grownBy w' (some g)

set_option maxHeartbeats 1000000 in
theorem of_any (g : Nat) (C : Value) (M S : Nat) (b o len cap : Nat) (w : World) (hcur : CurAt g C M w) (hco : CodeAt g C w) (hM : M ≤ 999999999) (hb : b ≠ g) (hl : TextsAt S b o len w) (h1 : 0 < len) (_h2 : len ≤ 1000000) (_h3 : len ≤ cap) :
    Calls Tryd.prog 74 #[.pointer (some ⟨g, 0, none⟩), .slice (some ⟨b, o, none⟩) len cap] w (TextPost g C (M + 2) S w) := by
  have H1 : Hid (Calls Tryd.prog 82 #[.pointer (some ⟨g, 0, none⟩), .int .i64 len] w (DrawPost g C M w len)) := pick_any g C M len w hcur hco hM
  clear hcur hco hM
  go_enter Tryd.func74, Tryd.ntmps74
  go_wp2_with fail
  refine H1.out.mono ?_
  rintro e w1 ⟨y, rfl, hy0, hy1, hy2, hc1, hg1⟩
  obtain ⟨n, rfl⟩ : ∃ n : Nat, y = n := ⟨y.toNat, by omega⟩
  have hn : n < len := by have := hy2 (by omega); omega
  obtain ⟨s, hs, hcs⟩ := hl.at_ n hn
  have hc' : w1.cell? ⟨b, o + n, none⟩ = some (.string s) := hg1.cell hcs (fun e => hb (by cases e; rfl))
  clear hl hy2 hcs
  go_wp2
  go_ret
  exact ⟨s, rfl, hs, hc1, hg1⟩

end Go.Proofs.YtbmnciejaknonaaDoor
