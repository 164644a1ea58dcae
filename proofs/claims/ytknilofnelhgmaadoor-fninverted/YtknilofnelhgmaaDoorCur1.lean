/- The drawing cursor, told exactly where the code is read to its end: the numbers are those of Lcg1. -/
import Derived.Test.YtknilofnelhgmaaDoorDrawM
import Derived.Test.YtknilofnelhgmaaDoorLcg1
namespace Go.Proofs.YtknilofnelhgmaaDoor
open Go.RowKit
open Doc1

/-- The cursor, with its place and its seed. -/
structure CurX (g : Nat) (C : Value) (i x : Nat) (w : World) : Prop where
  c0 : w.cell? ⟨g, 0, none⟩ = some C
  c1 : w.cell? ⟨g, 1, none⟩ = some (.int .i64 (i : Int))
  c2 : w.cell? ⟨g, 2, none⟩ = some (.int .u64 (x : Int))
  fz : ∀ j, w.frozen? ⟨g, j, none⟩ = false
def codeLen : Value → Nat
  | .slice _ n _ => n
  | _ => 0
theorem seed_eq (x : Nat) : IntKind.u64.wrap (IntKind.u64.wrap (IntKind.u64.wrap ((x : Int) * 6364136223846793005)) + 1442695040888963407) = ((lT x : Nat) : Int) := by
  rw [IntKind.wrap_u64, IntKind.wrap_u64, IntKind.wrap_u64]
  unfold lT
  omega
theorem byte_eq (z : Nat) (hz : z < 18446744073709551616) : wrap64 (bits .and .u64 ((z : Int) / 1099511627776) 255) = ((z / 1099511627776 % 256 : Nat) : Int) := by
  rw [u64_and _ 255 (by omega) (by omega) (by omega) (by omega)]
  have e1 : ((z : Int) / 1099511627776).toNat = z / 1099511627776 := by omega
  have e2 : (255 : Int).toNat = 2 ^ 8 - 1 := rfl
  rw [e1, e2, Nat.and_two_pow_sub_one_eq_mod]
  unfold wrap64
  have : z / 1099511627776 % 2 ^ 8 < 256 := Nat.mod_lt _ (by decide)
  omega
theorem lT_lt (x : Nat) : lT x < 18446744073709551616 := Nat.mod_lt _ (by decide)
theorem curX_step {g : Nat} {C : Value} {i x : Nat} {w w1 : World} {z : Nat} (b : Nat) (h : CurX g C i x w) (e : w1.heap = w.heap) (e1 : w1.os = w.os) (e2 : w1.tape = w.tape) (e3 : w1.output = w.output) :
    CurX g C (i + 1) z (((w1.setCell ⟨g, 1, none⟩ (.int .i64 ((i : Int) + 1))).setCell ⟨g, 2, none⟩ (.int .u64 (z : Int))).drewN b) ∧
      w.grownBy (((w1.setCell ⟨g, 1, none⟩ (.int .i64 ((i : Int) + 1))).setCell ⟨g, 2, none⟩ (.int .u64 (z : Int))).drewN b) (some g) := by
  have k : ∀ a, w1.cell? a = w.cell? a := fun a => by simp [World.cell?, e]
  have kf : ∀ a, w1.frozen? a = w.frozen? a := fun a => by simp [World.frozen?, e]
  have g1 : (w1.setCell ⟨g, 1, none⟩ (.int .i64 ((i : Int) + 1))).cell? ⟨g, 1, none⟩ = some (.int .i64 ((i : Int) + 1)) := World.cell?_setCell_same _ _ _ (by rw [k]; exact h.c1)
  have g2 : (w1.setCell ⟨g, 1, none⟩ (.int .i64 ((i : Int) + 1))).cell? ⟨g, 2, none⟩ = some (.int .u64 (x : Int)) := by rw [World.cell?_setCell_other _ _ _ _ (by simp), k]; exact h.c2
  refine ⟨{ c0 := ?_, c1 := ?_, c2 := ?_, fz := fun j => ?_ }, ⟨e1, e2, e3, ?_, fun j hj hne => ?_⟩⟩
  · show ((w1.setCell _ _).setCell _ _).cell? _ = _
    rw [World.cell?_setCell_other _ _ _ _ (by simp), World.cell?_setCell_other _ _ _ _ (by simp), k]; exact h.c0
  · show ((w1.setCell _ _).setCell _ _).cell? _ = _
    rw [World.cell?_setCell_other _ _ _ _ (by simp), g1]
    rfl
  · exact World.cell?_setCell_same _ _ _ g2
  · show ((w1.setCell _ _).setCell _ _).frozen? _ = _
    rw [World.frozen?_setCell, World.frozen?_setCell, kf]; exact h.fz j
  · show w.heap.size ≤ ((w1.setCell _ _).setCell _ _).heap.size
    simp [World.setCell, e]
  · show ((w1.setCell _ _).setCell _ _).heap[j]? = _
    have hjg : j ≠ g := fun he => hne (by rw [he])
    rw [Below.heap_setCell _ _ _ _ hjg, Below.heap_setCell _ _ _ _ hjg, e]
/-- What next leaves, told exactly behind the code's end. -/
def NextX (g : Nat) (C : Value) (i x : Nat) (w : World) (e : Ending) (w' : World) : Prop :=
  ∃ y x' : Nat, e = .returned (.int .i64 (y : Int)) ∧ y ≤ 255 ∧ x' < 18446744073709551616 ∧ CurX g C (i + 1) x' w' ∧ w.grownBy w' (some g) ∧ (codeLen C ≤ i → x' = lT x ∧ y = x' / 1099511627776 % 256)

set_option maxRecDepth 100000 in
set_option maxHeartbeats 1000000 in
theorem next_x (g : Nat) (C : Value) (i x : Nat) (w : World) (hcur : CurX g C i x w) (hco : CodeAt g C w) (hi : i ≤ 4000000000000000000) :
    Calls Tryd.prog 102 #[.pointer (some ⟨g, 0, none⟩)] w (NextX g C i x w) := by
  have h0 := hcur.c0
  have h1 := hcur.c1
  have h2 := hcur.c2
  have hf := hcur.fz
  cases hco with
  | nil _ a cap =>
    go_enter Tryd.func102, Tryd.ntmps102
    go_wp2
    go_quiet (fail)
    go_wp2
    go_quiet (fail)
    go_wp2
    go_ret
    have hz := lT_lt x
    rw [seed_eq, byte_eq _ hz]
    obtain ⟨z, hzz⟩ : ∃ z, z = lT x := ⟨_, rfl⟩
    rw [← hzz] at hz ⊢
    obtain ⟨y, hyy⟩ : ∃ y, y = z / 1099511627776 % 256 := ⟨_, rfl⟩
    rw [← hyy]
    exact ⟨y, z, rfl, by omega, hz, (curX_step _ hcur (by rfl) (by rfl) (by rfl) (by rfl)).1, (curX_step _ hcur (by rfl) (by rfl) (by rfl) (by rfl)).2, fun _ => ⟨hzz, hyy⟩⟩
  | row _ b o len cap hb hl hc =>
    by_cases hlt : i < len
    · obtain ⟨y, hy0, hy1, hcy⟩ := hc i hlt
      clear hc
      have hne : ¬ g = b := fun h => hb h.symm
      obtain ⟨q, rfl⟩ : ∃ q : Nat, y = q := ⟨y.toNat, by omega⟩
      go_enter Tryd.func102, Tryd.ntmps102
      go_wp2
      go_quiet (fail)
      go_wp2
      go_quiet (fail)
      go_wp2
      go_quiet (fail)
      go_wp2
      go_ret
      obtain ⟨z, hz, hzl⟩ : ∃ z : Nat, IntKind.u64.wrap (IntKind.u64.wrap (IntKind.u64.wrap ((x : Int) * 6364136223846793005) + (q : Int)) + 1442695040888963407) = (z : Int) ∧ z < 18446744073709551616 := by
        rw [IntKind.wrap_u64]
        generalize IntKind.u64.wrap (IntKind.u64.wrap ((x : Int) * 6364136223846793005) + (q : Int)) + 1442695040888963407 = t
        exact ⟨(t % 18446744073709551616).toNat, by omega, by omega⟩
      rw [hz]
      exact ⟨q, z, rfl, by omega, hzl, (curX_step _ hcur (by rfl) (by rfl) (by rfl) (by rfl)).1, (curX_step _ hcur (by rfl) (by rfl) (by rfl) (by rfl)).2, fun c => absurd c (by show ¬ len ≤ i; omega)⟩
    · clear hc
      go_enter Tryd.func102, Tryd.ntmps102
      go_wp2
      go_quiet (fail)
      go_wp2
      go_quiet (fail)
      go_wp2
      go_ret
      have hz := lT_lt x
      rw [seed_eq, byte_eq _ hz]
      obtain ⟨z, hzz⟩ : ∃ z, z = lT x := ⟨_, rfl⟩
      rw [← hzz] at hz ⊢
      obtain ⟨y, hyy⟩ : ∃ y, y = z / 1099511627776 % 256 := ⟨_, rfl⟩
      rw [← hyy]
      exact ⟨y, z, rfl, by omega, hz, (curX_step _ hcur (by rfl) (by rfl) (by rfl) (by rfl)).1, (curX_step _ hcur (by rfl) (by rfl) (by rfl) (by rfl)).2, fun _ => ⟨hzz, hyy⟩⟩

/-- What a draw of one of a few numbers leaves. -/
def PickX (g : Nat) (C : Value) (i x n : Nat) (w : World) (e : Ending) (w' : World) : Prop :=
  ∃ y x' : Nat, e = .returned (.int .i64 (y : Int)) ∧ y < n ∧ x' < 18446744073709551616 ∧ CurX g C (i + 1) x' w' ∧ w.grownBy w' (some g) ∧ (codeLen C ≤ i → x' = lT x ∧ y = x' / 1099511627776 % 256 % n)

set_option maxHeartbeats 1000000 in
theorem pick_x (g : Nat) (C : Value) (i x n : Nat) (w : World) (hcur : CurX g C i x w) (hco : CodeAt g C w) (hi : i ≤ 4000000000000000000) (hn1 : 2 ≤ n) (hn2 : n ≤ 200) :
    Calls Tryd.prog 66 #[.pointer (some ⟨g, 0, none⟩), .int .i64 (n : Int)] w (PickX g C i x n w) := by
  have H1 := hidI (next_x g C i x w hcur hco hi)
  clear hcur hco
  have h1 : ¬ (n : Int) ≤ 1 := by omega
  have h2 : (n : Int) ≤ 200 := by omega
  go_enter Tryd.func66, Tryd.ntmps66
  go_wp2_with fail
  refine H1.out.mono ?_
  rintro e w1 ⟨y, x', rfl, hy1, hxl, hc1, hg1, hex⟩
  have HC := hidI hc1
  have HG := hidI hg1
  have HX := hidI hex
  clear hc1 hg1 hex
  go_wp2
  go_ret
  have hlt : y % n < n := Nat.mod_lt _ (by omega)
  refine ⟨y % n, x', ?_, hlt, hxl, HC.out, HG.out, fun c => ⟨(HX.out c).1, by rw [← (HX.out c).2]⟩⟩
  show Ending.returned (.int .i64 _) = _
  rw [Int.natCast_emod]

/-- What a draw of a text leaves. -/
def OfX (g : Nat) (C : Value) (i x S : Nat) (w : World) (e : Ending) (w' : World) : Prop :=
  ∃ (s : ByteArray) (x' : Nat), e = .returned (.string s) ∧ s.size ≤ S ∧ x' < 18446744073709551616 ∧ CurX g C (i + 1) x' w' ∧ w.grownBy w' (some g) ∧ (codeLen C ≤ i → x' = lT x)

set_option maxHeartbeats 1000000 in
theorem of_x (g : Nat) (C : Value) (i x S : Nat) (b o len cap : Nat) (w : World) (hcur : CurX g C i x w) (hco : CodeAt g C w) (hi : i ≤ 4000000000000000000) (hb : b ≠ g) (hl : TextsAt S b o len w) (h1 : 2 ≤ len) (h2 : len ≤ 200) (_h3 : len ≤ cap) :
    Calls Tryd.prog 79 #[.pointer (some ⟨g, 0, none⟩), .slice (some ⟨b, o, none⟩) len cap] w (OfX g C i x S w) := by
  have H1 := hidI (pick_x g C i x len w hcur hco hi h1 h2)
  clear hcur hco
  go_enter Tryd.func79, Tryd.ntmps79
  go_wp2_with fail
  refine H1.out.mono ?_
  rintro e w1 ⟨y, x', rfl, hy, hxl, hc1, hg1, hex⟩
  obtain ⟨s, hs, hcs⟩ := hl.at_ y hy
  have hc' : w1.cell? ⟨b, o + y, none⟩ = some (.string s) := hg1.cell hcs (fun e => hb (by cases e; rfl))
  have HC := hidI hc1
  have HG := hidI hg1
  have HX := hidI hex
  clear hl hcs hc1 hg1 hex
  go_wp2
  go_ret
  exact ⟨s, x', rfl, hs, hxl, HC.out, HG.out, fun c => (HX.out c).1⟩
end Go.Proofs.YtknilofnelhgmaaDoor
